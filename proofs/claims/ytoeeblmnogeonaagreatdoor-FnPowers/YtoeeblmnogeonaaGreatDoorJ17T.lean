/-
  Joined: DvY, DvZ, DvBP, DvG.
-/
import Derived.Test.YtoeeblmnogeonaaGreatDoorJ12T
import Derived.Test.YtoeeblmnogeonaaGreatDoorJ16T
namespace Go.Proofs.YtoeeblmnogeonaaGreatDoor
section
open Go.RowKit
set_option maxRecDepth 100000 in
set_option maxHeartbeats 4000000 in
theorem cPrPartI (F G n k : Nat) (fs : List FkR) (f : FkR) (gb nb cb : Nat) (zs : List Int) (kp : Int) (w0 w : World) (hz : zs.length = nb) (h : FO w0 w F G n fs) (hf : fs[k]? = some f) (h8 : fkN f < 8) (hr : ∀ p ∈ f.ps, Rd w p.a p.zs) (htp : totP (f.ps.map PgR.D) ≤ 1048576) (hnb : nb ≤ cb ∧ nb ≤ 1048576) (hk : 0 ≤ kp ∧ kp ≤ 400) :
    Calls Tryz.prog 103 #[.pointer (some ⟨G, k * 18, none⟩), .slice (some ⟨gb, 0, none⟩) nb cb, .int .i64 kp] w (FOA w0 w F G n (prAt fs k ⟨true, (some ⟨gb, 0, none⟩), cb, zs.take kp.toNat⟩)) := by
  obtain ⟨q, rfl⟩ : ∃ q : Nat, kp = (q : Int) := ⟨kp.toNat, by omega⟩
  rw [Int.toNat_natCast]
  by_cases hq : q ≤ nb
  · have hqi : (q : Int) ≤ (nb : Int) := by omega
    have hqj : ¬ (nb : Int) < (q : Int) := by omega
    have hmi : min (q : Int) (nb : Int) = (q : Int) := by omega
    have hzt : (zs.take q).length = q := by rw [List.length_take, hz]; omega
    have hcall := cProgI F G n k fs f (some ⟨gb, 0, none⟩) q cb (zs.take q) w0 w hzt h hf h8 hr htp
    generalize hGP : FOA w0 w F G n (prAt fs k ⟨true, (some ⟨gb, 0, none⟩), cb, zs.take q⟩) = P at hcall ⊢
    have HGP : Hid _ := hGP
    clear h hf h8 hr htp hzt hz hGP hk
    go_enter Tryz.func103, Tryz.ntmps103
    go_wp2_with fail
    refine hcall.mono ?_
    intro e w1 hA
    rw [← HGP.out] at hA
    obtain ⟨rfl, h1, h2⟩ := hA
    go_wp2
    try go_end0
    rw [← HGP.out]
    exact ⟨rfl, h1, h2⟩
  · have hqi : ¬ (q : Int) ≤ (nb : Int) := by omega
    have hqj : (nb : Int) < (q : Int) := by omega
    have hmi : min (q : Int) (nb : Int) = (nb : Int) := by omega
    have hzt : zs.length = nb := hz
    rw [List.take_of_length_le (by omega)]
    have hcall := cProgI F G n k fs f (some ⟨gb, 0, none⟩) nb cb (zs) w0 w hzt h hf h8 hr htp
    generalize hGP : FOA w0 w F G n (prAt fs k ⟨true, (some ⟨gb, 0, none⟩), cb, zs⟩) = P at hcall ⊢
    have HGP : Hid _ := hGP
    clear h hf h8 hr htp hzt hz hGP hk
    go_enter Tryz.func103, Tryz.ntmps103
    go_wp2_with fail
    refine hcall.mono ?_
    intro e w1 hA
    rw [← HGP.out] at hA
    obtain ⟨rfl, h1, h2⟩ := hA
    go_wp2
    try go_end0
    rw [← HGP.out]
    exact ⟨rfl, h1, h2⟩
set_option maxHeartbeats 1600000 in
theorem prC1I (F G n k K Q : Nat) (fs : List FkR) (f : FkR) (gb nb cb : Nat) (zs : List Int) (w0 w : World) (hz : zs.length = nb) (h : FO w0 w F G n fs) (hf : fs[k]? = some f) (h8 : fkN f < 8) (hr : ∀ p ∈ f.ps, Rd w p.a p.zs) (htp : totP (f.ps.map PgR.D) ≤ 1048576) (hK : Blk w K 127 #[.pointer (some ⟨G, k * 18, none⟩)]) (hQ : Blk w Q 22 #[.slice (some ⟨gb, 0, none⟩) nb cb]) :
    Calls Tryz.prog 100 #[.pointer (some ⟨K, 0, none⟩), .pointer (some ⟨Q, 0, none⟩)] w (FOA w0 w F G n (prAt fs k ⟨true, (some ⟨gb, 0, none⟩), cb, zs⟩)) := by
  have hcall := cProgI F G n k fs f (some ⟨gb, 0, none⟩) nb cb zs w0 w hz h hf h8 hr htp
  have x0 := hK.cell 0
  have x1 := hQ.cell 0
  simp at x0 x1
  generalize hGP : FOA w0 w F G n (prAt fs k ⟨true, (some ⟨gb, 0, none⟩), cb, zs⟩) = P at hcall ⊢
  have HGP : Hid _ := hGP
  clear hGP h hf h8 hr htp hK hQ hz
  go_enter Tryz.func100, Tryz.ntmps100
  go_wp2_with fail
  refine hcall.mono ?_
  intro e w1 hA
  rw [← HGP.out] at hA
  obtain ⟨rfl, h1, h2⟩ := hA
  go_wp2
  try go_end0
  rw [← HGP.out]
  exact ⟨rfl, h1, h2⟩
set_option maxHeartbeats 1600000 in
theorem prC2I (F G n k K Q : Nat) (fs : List FkR) (f : FkR) (gb nb cb : Nat) (zs : List Int) (kp : Int) (w0 w : World) (hz : zs.length = nb) (h : FO w0 w F G n fs) (hf : fs[k]? = some f) (h8 : fkN f < 8) (hr : ∀ p ∈ f.ps, Rd w p.a p.zs) (htp : totP (f.ps.map PgR.D) ≤ 1048576) (hnb : nb ≤ cb ∧ nb ≤ 1048576) (hk : 0 ≤ kp ∧ kp ≤ 400) (hK : Blk w K 127 #[.pointer (some ⟨G, k * 18, none⟩)]) (hQ : Blk w Q 22 #[.slice (some ⟨gb, 0, none⟩) nb cb]) :
    Calls Tryz.prog 102 #[.int .i64 kp, .pointer (some ⟨K, 0, none⟩), .pointer (some ⟨Q, 0, none⟩)] w (FOA w0 w F G n (prAt fs k ⟨true, (some ⟨gb, 0, none⟩), cb, zs.take kp.toNat⟩)) := by
  have hcall := cPrPartI F G n k fs f gb nb cb zs kp w0 w hz h hf h8 hr htp hnb hk
  have x0 := hK.cell 0
  have x1 := hQ.cell 0
  simp at x0 x1
  generalize hGP : FOA w0 w F G n (prAt fs k ⟨true, (some ⟨gb, 0, none⟩), cb, zs.take kp.toNat⟩) = P at hcall ⊢
  have HGP : Hid _ := hGP
  clear hGP h hf h8 hr htp hK hQ hz hk
  go_enter Tryz.func102, Tryz.ntmps102
  go_wp2_with fail
  refine hcall.mono ?_
  intro e w1 hA
  rw [← HGP.out] at hA
  obtain ⟨rfl, h1, h2⟩ := hA
  go_wp2
  try go_end0
  rw [← HGP.out]
  exact ⟨rfl, h1, h2⟩
set_option maxRecDepth 100000 in
set_option maxHeartbeats 8000000 in
theorem opPrI (X F G n k K Q gb nb cb : Nat) (zs : List Int) (ks : List FkR) (f : FkR) (ops : Int) (fa : Option Addr) (m fc : Nat) (fs : List FtD) (down : Bool) (w0 w : World) (h : DO w0 w X F G n ks ops fa m fc down) (hfr : FR w fa m fs) (ho : 0 ≤ ops ∧ ops < 100000) (hfs : ∀ t ∈ fs, ftOk t = true) (hf : ks[k]? = some f) (hz : zs.length = nb) (hnb : nb ≤ cb ∧ nb ≤ 1048576) (h8 : fkN f < 8) (hr : ∀ p ∈ f.ps, ∀ W : World, Below w0.heap.size w0 W → Rd W p.a p.zs) (htp : totP (f.ps.map PgR.D) ≤ 1048576) (hK : Blk w K 127 #[.pointer (some ⟨G, k * 18, none⟩)]) (hQ : Blk w Q 22 #[.slice (some ⟨gb, 0, none⟩) nb cb]) (hKX : K ≠ X) (hQX : Q ≠ X) :
    Calls Tryz.prog 99 #[.pointer (some ⟨X, 0, none⟩), .pointer (some ⟨G, k * 18, none⟩), .func (.func 100) #[] #[.pointer (some ⟨K, 0, none⟩), .pointer (some ⟨Q, 0, none⟩)], .func (.func 102) #[] #[.pointer (some ⟨K, 0, none⟩), .pointer (some ⟨Q, 0, none⟩)]] w (EvA w0 w X F G n 0 ks (prAt ks k ⟨true, (some ⟨gb, 0, none⟩), cb, zs⟩) (badAt ks k) (fun kp => prAt ks k ⟨true, (some ⟨gb, 0, none⟩), cb, zs.take kp.toNat⟩) (faD ops fs) ops fa m fc down) := by
  have hcall := beginI X F G n ks ops fa m fc fs down w0 w h hfr ho
  have C1 : Hid (∀ W : World, FO w0 W F G n ks → Blk W K 127 #[.pointer (some ⟨G, k * 18, none⟩)] → Blk W Q 22 #[.slice (some ⟨gb, 0, none⟩) nb cb] → Calls Tryz.prog 100 #[.pointer (some ⟨K, 0, none⟩), .pointer (some ⟨Q, 0, none⟩)] W (FOA w0 W F G n (prAt ks k ⟨true, (some ⟨gb, 0, none⟩), cb, zs⟩))) := fun W h1 h2 h3 => prC1I F G n k K Q ks f gb nb cb zs w0 W hz h1 hf h8 (fun p hp => hr p hp W h1.bel) htp h2 h3
  have C2 : Hid (∀ (W : World) (kp : Int), 0 ≤ kp ∧ kp ≤ 400 → FO w0 W F G n ks → Blk W K 127 #[.pointer (some ⟨G, k * 18, none⟩)] → Blk W Q 22 #[.slice (some ⟨gb, 0, none⟩) nb cb] → Calls Tryz.prog 102 (#[.int .i64 kp] ++ #[.pointer (some ⟨K, 0, none⟩), .pointer (some ⟨Q, 0, none⟩)]) W (FOA w0 W F G n (prAt ks k ⟨true, (some ⟨gb, 0, none⟩), cb, zs.take kp.toNat⟩))) := fun W kp hkp h1 h2 h3 => prC2I F G n k K Q ks f gb nb cb zs kp w0 W hz h1 hf h8 (fun p hp => hr p hp W h1.bel) htp hnb hkp h2 h3
  have hmem : ∀ t, faD ops fs = some t → 0 ≤ t.kp ∧ t.kp ≤ 400 := fun t ht => by
    have h1 := hfs t (List.mem_of_find?_eq_some ht)
    unfold ftOk at h1
    simp at h1
    omega
  obtain ⟨o, hoo⟩ : ∃ o, faD ops fs = o := ⟨_, rfl⟩
  rw [hoo] at hcall hmem ⊢
  have HKX : Hid _ := And.intro hKX hQX
  have HK : Hid _ := And.intro hK hQ
  have HF : Hid _ := hf
  have HDO : Hid _ := h
  have hXw := h.x.lt
  have hGw := h.fo.g.lt (g := G) rfl
  have HXG : Hid (X ≠ G) := h.xg
  clear hoo hfr hf hz hnb h8 hr htp hK hQ h hfs ho
  cases o with
  | none =>
    simp only [Option.getD_none, Option.isSome_none, ftZ] at hcall
    generalize hGP : EvA w0 w X F G n 0 ks (prAt ks k ⟨true, (some ⟨gb, 0, none⟩), cb, zs⟩) (badAt ks k) (fun kp => prAt ks k ⟨true, (some ⟨gb, 0, none⟩), cb, zs.take kp.toNat⟩) none ops fa m fc down = P
    have HGP : Hid _ := hGP
    clear hGP hmem
    go_enter Tryz.func99, Tryz.ntmps99
    go_wp2_with fail
    refine hcall.mono ?_
    rintro e w1 ⟨rfl, do1, sv1⟩
    have b2 : Below w1.heap.size w1 (w1.alloc (.cells #[.int .i64 0, .int .i64 0, .int .i64 0] 51)) := (Below.refl _ _).alloc (Nat.le_refl _) _
    have do2 := do1.keep b2
    have k2 := (Blk.svs HK.out.1 sv1 (by simp; exact HKX.out.1)).keep b2
    have q2 := (Blk.svs HK.out.2 sv1 (by simp; exact HKX.out.2)).keep b2

    have hc2 := C1.out _ do2.fo k2 q2
    have sv2 : Sv [X, G] w (w1.alloc (.cells #[.int .i64 0, .int .i64 0, .int .i64 0] 51)) := (sv1.wider (by simp)).trans (Below.sv b2 _)
    clear hcall do1 sv1 b2
    go_wp2_with fail
    refine hc2.mono ?_
    rintro e w3 ⟨rfl, fo3, sv3⟩
    have HN : Hid _ := And.intro (do2.row fo3 sv3) (sv2.trans (sv3.wider (by simp)))
    clear do2 fo3 sv3 sv2 hc2
    go_wp2
    rw [← HGP.out]
    exact ⟨rfl, HN.out.1, HN.out.2⟩
  | some t =>
    obtain ⟨ft, fk, fp⟩ := t
    simp only [Option.getD_some, Option.isSome_some] at hcall
    have hkp := hmem _ rfl
    dsimp only at hkp
    by_cases h1 : fk = 1
    · subst h1
      generalize hGP : EvA w0 w X F G n 0 ks (prAt ks k ⟨true, (some ⟨gb, 0, none⟩), cb, zs⟩) (badAt ks k) (fun kp => prAt ks k ⟨true, (some ⟨gb, 0, none⟩), cb, zs.take kp.toNat⟩) (some ⟨ft, 1, fp⟩) ops fa m fc down = P
      have HGP : Hid _ := hGP
      clear hGP hmem
      go_enter Tryz.func99, Tryz.ntmps99
      go_wp2_with fail
      refine hcall.mono ?_
      rintro e w1 ⟨rfl, do1, sv1⟩
      have b2 : Below w1.heap.size w1 (w1.alloc (.cells #[.int .i64 ft, .int .i64 1, .int .i64 fp] 51)) := (Below.refl _ _).alloc (Nat.le_refl _) _
      have do2 := do1.keep b2
      have sv2 : Sv [X, G] w (w1.alloc (.cells #[.int .i64 ft, .int .i64 1, .int .i64 fp] 51)) := (sv1.wider (by simp)).trans (Below.sv b2 _)
      obtain ⟨v0, p0⟩ := do2.fo.is HF.out (j := 17) (by omega)
      have g0 := do2.fo.g.frozen (k * 18 + 17)
      have fn := do2.fo.one (j := 17) (x := .bool true) HF.out (by omega) (en_bad f true)
      have hbk : badAt ks k = ks.set k (f.badTo true) := by unfold badAt; rw [HF.out]
      rw [← hbk] at fn
      have HN : Hid _ := And.intro (do2.row fn (sv_one _ _ _ _)) (sv2.trans ((sv_one _ G (k * 18 + 17) (.bool true)).wider (by simp)))
      clear do1 sv1 b2 do2 sv2 fn hbk hcall
      go_wp2
      rw [← HGP.out]
      exact ⟨rfl, HN.out.1, HN.out.2⟩
    · have h1b : (fk == 1) = false := by simpa using h1
      generalize hGP : EvA w0 w X F G n 0 ks (prAt ks k ⟨true, (some ⟨gb, 0, none⟩), cb, zs⟩) (badAt ks k) (fun kp => prAt ks k ⟨true, (some ⟨gb, 0, none⟩), cb, zs.take kp.toNat⟩) (some ⟨ft, fk, fp⟩) ops fa m fc down = P
      have HGP : Hid _ := hGP
      have H1 : Hid _ := h1
      clear hGP hmem h1
      go_enter Tryz.func99, Tryz.ntmps99
      go_wp2_with fail
      refine hcall.mono ?_
      rintro e w1 ⟨rfl, do1, sv1⟩
      have b2 : Below w1.heap.size w1 (w1.alloc (.cells #[.int .i64 ft, .int .i64 fk, .int .i64 fp] 51)) := (Below.refl _ _).alloc (Nat.le_refl _) _
      have do2 := do1.keep b2
      have k2 := (Blk.svs HK.out.1 sv1 (by simp; exact HKX.out.1)).keep b2
      have q2 := (Blk.svs HK.out.2 sv1 (by simp; exact HKX.out.2)).keep b2

      have hc2 := C2.out _ fp hkp do2.fo k2 q2
      have sv2 : Sv [X, G] w (w1.alloc (.cells #[.int .i64 ft, .int .i64 fk, .int .i64 fp] 51)) := (sv1.wider (by simp)).trans (Below.sv b2 _)
      clear hcall do1 sv1 b2
      go_wp2_with fail
      refine hc2.mono ?_
      rintro e w3 ⟨rfl, fo3, sv3⟩
      have HN : Hid _ := And.intro (do2.row fo3 sv3) (sv2.trans (sv3.wider (by simp)))
      clear do2 fo3 sv3 sv2 hc2
      go_wp2
      rw [← HGP.out]
      have h1 := H1.out
      have e1 : evEnd 0 (some ⟨ft, fk, fp⟩) = .panicked [{ v := .iface 149 (.int .i64 10), recovered := false }] := by
        unfold evEnd opEnd
        rw [if_pos rfl]
        dsimp only
        rw [if_neg h1]
      have e2 : opK (prAt ks k ⟨true, (some ⟨gb, 0, none⟩), cb, zs⟩) (badAt ks k) (fun kp => prAt ks k ⟨true, (some ⟨gb, 0, none⟩), cb, zs.take kp.toNat⟩) (some ⟨ft, fk, fp⟩) = prAt ks k ⟨true, (some ⟨gb, 0, none⟩), cb, zs.take fp.toNat⟩ := by
        unfold opK
        dsimp only
        rw [if_neg h1]
      refine ⟨rfl, e1.symm, ?_, HN.out.2⟩
      rw [if_pos rfl, if_pos rfl, e2]
      exact HN.out.1
end

section
open Go.RowKit
set_option maxRecDepth 100000 in
set_option maxHeartbeats 8000000 in
theorem dvPrI (X F G n gb nb cb : Nat) (zs : List Int) (ks : List FkR) (x : Int) (ops : Int) (fa : Option Addr) (m fc : Nat) (fs : List FtD) (down : Bool) (w0 w : World) (hn : n ≤ 1048576) (hz : zs.length = nb) (hnb : nb ≤ cb ∧ nb ≤ 1048576) (h : DO w0 w X F G n ks ops fa m fc down) (hfr : FR w fa m fs) (ho : 0 ≤ ops ∧ ops < 100000) (hfs : ∀ t ∈ fs, ftOk t = true) (hr : ∀ f ∈ ks, ∀ p ∈ f.ps, ∀ W : World, Below w0.heap.size w0 W → Rd W p.a p.zs) (ht : totB (ks.map FkR.D) ≤ 1048576) :
    Calls Tryz.prog 50 #[.pointer (some ⟨X, 0, none⟩), .int .i64 x, .slice (some ⟨gb, 0, none⟩) nb cb] w (EvA w0 w X F G n (prC ks x nb) ks (prAt ks x.toNat ⟨true, (some ⟨gb, 0, none⟩), cb, zs⟩) (badAt ks x.toNat) (fun kp => prAt ks x.toNat ⟨true, (some ⟨gb, 0, none⟩), cb, zs.take kp.toNat⟩) (faD ops fs) ops fa m fc down) := by
  have B0 : Below w.heap.size w (w.alloc (.cells #[.slice (some ⟨gb, 0, none⟩) nb cb] 22)) := (Below.refl _ w).alloc (Nat.le_refl _) _
  have zQ := Blk.new w 22 #[.slice (some ⟨gb, 0, none⟩) nb cb]
  obtain ⟨Q, hQ⟩ : ∃ Q, w.heap.size = Q := ⟨_, rfl⟩
  have hXQ : X < Q := by rw [← hQ]; exact h.x.lt
  rw [hQ] at zQ
  have hmf : ∀ (fn : Fn) (first cap : Array Value) (w : World), (Instr.makeFunc fn first cap).run Tryz.prog w = .ok (.func fn first cap) w := fun _ _ _ _ => rfl
  have hbt := fun (W : World) (hW : Below w.heap.size w W) => btpI F G n ks x (some ⟨gb, 0, none⟩) nb cb w0 W hn hnb.2 (h.keep hW).fo (fun f hf p hp => hr f hf p hp W (h.keep hW).fo.bel) ht
  obtain ⟨po, hpo⟩ : ∃ po, (if prC ks x nb = 0 then Value.pointer (some ⟨G, x.toNat * 18, none⟩) else .pointer none) = .pointer po := by
    split
    · exact ⟨_, rfl⟩
    · exact ⟨_, rfl⟩
  obtain ⟨ev, hev⟩ : ∃ ev, errV (prC ks x nb) = ev := ⟨_, rfl⟩
  rw [hpo, hev] at hbt
  have HPO : Hid _ := And.intro hpo hev
  generalize hGP : EvA w0 w X F G n (prC ks x nb) ks (prAt ks x.toNat ⟨true, (some ⟨gb, 0, none⟩), cb, zs⟩) (badAt ks x.toNat) (fun kp => prAt ks x.toNat ⟨true, (some ⟨gb, 0, none⟩), cb, zs.take kp.toNat⟩) (faD ops fs) ops fa m fc down = P
  have HGP : Hid _ := hGP
  clear hpo hev hGP
  go_enter Tryz.func50, Tryz.ntmps50
  go_upto_region 1 with fail
  obtain ⟨W0, hW0⟩ : ∃ W, w.alloc (.cells #[.slice (some ⟨gb, 0, none⟩) nb cb] 22) = W := ⟨_, rfl⟩
  rw [hW0] at B0 zQ ⊢
  try rw [hQ]
  clear hW0
  have HD : Hid (Below w.heap.size w W0.drew) := B0.drew
  have HDO : Hid (∀ W : World, Below w.heap.size w W → DO w0 W X F G n ks ops fa m fc down) := fun W hW => h.keep hW
  have HZQ : Hid (Blk W0.drew Q 22 #[.slice (some ⟨gb, 0, none⟩) nb cb]) := zQ.keep (Below.refl _ _).drew
  have hall : Hid (∀ W : World, Below W0.drew.heap.size W0.drew W → W.cell? ⟨X, 0, none⟩ = some (.pointer (some ⟨F, 0, none⟩)) ∧ W.cell? ⟨Q, 0, none⟩ = some (.slice (some ⟨gb, 0, none⟩) nb cb)) := fun W hW => ⟨(HDO.out W (HD.out.trans (hW.mono HD.out.size))).x.cell 0, (Blk.keep HZQ.out hW).cell 0⟩
  have hc0 := hbt W0.drew HD.out
  have bA : Below W0.drew.heap.size W0.drew (W0.drew.alloc (.cells #[.pointer none] 127)) := (Below.refl _ _).alloc (Nat.le_refl _) _
  have hc1 : Calls Tryz.prog 98 #[.pointer (some ⟨F, 0, none⟩), .int .i64 x, .slice (some ⟨gb, 0, none⟩) nb cb] (W0.alloc (.cells #[.pointer none] 127)).drew _ := hbt _ (HD.out.trans (bA.mono HD.out.size))
  have HBA : Hid _ := bA
  have HFR : Hid (∀ W : World, Below w.heap.size w W → FR W fa m fs) := fun W hW => hfr.keep hW
  have HR : Hid _ := hr
  have HQQ : Hid (w.heap.size = Q) := hQ
  obtain ⟨s1, s2⟩ := hall.out W0.drew (Below.refl _ _)
  clear h hfr hr B0 zQ hQ hbt bA
  refine wp_region_noPanic ?_
  refine wp_region_last (fun W : World => W.cell? ⟨X, 0, none⟩ = some (.pointer (some ⟨F, 0, none⟩)) ∧ W.cell? ⟨Q, 0, none⟩ = some (.slice (some ⟨gb, 0, none⟩) nb cb)) 12 (by kernel_rfl) (by kernel_rfl) (by go_keep) 12 (by kernel_rfl) (fun hS => ?_)
  refine wpAnyH_take (i := 0) (v := ?gv1) rfl (by kernel_rfl) (by kernel_rfl) (by kernel_rfl) (fun _ _ _ h => h) (Or.inl ⟨by kernel_rfl, ?gy1⟩) (by assumption) ?gr1
  case gy1 => (intro w' hSw; (try dsimp only at hSw); go_simp; (try with_reducible rfl))
  try simp only [Act.put, List.setIfInBounds_toArray, List.set_cons_zero, List.set_cons_succ, List.getElem_toArray, List.getElem_cons_zero]
  refine wpAnyH_take (i := 1) (v := ?gv2) rfl (by kernel_rfl) (by kernel_rfl) (by kernel_rfl) (fun _ _ _ h => h) (Or.inl ⟨by kernel_rfl, ?gy2⟩) (by assumption) ?gr2
  case gy2 => (intro w' hSw; (try dsimp only at hSw); go_simp; (try with_reducible rfl))
  try simp only [Act.put, List.setIfInBounds_toArray, List.set_cons_zero, List.set_cons_succ, List.getElem_toArray, List.getElem_cons_succ, List.getElem_cons_zero]
  refine wpAnyH_take (i := 2) (v := ?gv3) rfl (by kernel_rfl) (by kernel_rfl) (by kernel_rfl) (fun _ _ _ h => h) (Or.inl ⟨by kernel_rfl, ?gy3⟩) (by assumption) ?gr3
  case gy3 => (intro w' hSw; (try dsimp only at hSw); go_simp; (try with_reducible rfl))
  try simp only [Act.put, List.setIfInBounds_toArray, List.set_cons_zero, List.set_cons_succ, List.getElem_toArray, List.getElem_cons_succ, List.getElem_cons_zero]
  refine wpAnyH_take (i := 3) (v := ?gv4) rfl (by kernel_rfl) (by kernel_rfl) (by kernel_rfl) (fun _ _ _ h => h) (Or.inl ⟨by kernel_rfl, ?gy4⟩) (by assumption) ?gr4
  case gy4 => (intro w' hSw; (try dsimp only at hSw); go_simp; (try with_reducible rfl))
  try simp only [Act.put, List.setIfInBounds_toArray, List.set_cons_zero, List.set_cons_succ, List.getElem_toArray, List.getElem_cons_succ, List.getElem_cons_zero]
  refine wpAnyH_take (i := 4) (v := ?gv5) rfl (by kernel_rfl) (by kernel_rfl) (by kernel_rfl) (fun _ _ _ h => h) (Or.inl ⟨by kernel_rfl, ?gy5⟩) (by assumption) ?gr5
  case gy5 => (intro w' hSw; (try dsimp only at hSw); go_simp; (try with_reducible rfl))
  try simp only [Act.put, List.setIfInBounds_toArray, List.set_cons_zero, List.set_cons_succ, List.getElem_toArray, List.getElem_cons_succ, List.getElem_cons_zero]
  refine wpAnyH_take (i := 5) (v := ?gv6) rfl (by kernel_rfl) (by kernel_rfl) (by kernel_rfl) (fun _ _ _ h => h) (Or.inl ⟨by kernel_rfl, ?gy6⟩) (by assumption) ?gr6
  case gy6 => (intro w' hSw; (try dsimp only at hSw); go_simp; (try with_reducible rfl))
  try simp only [Act.put, List.setIfInBounds_toArray, List.set_cons_zero, List.set_cons_succ, List.getElem_toArray, List.getElem_cons_succ, List.getElem_cons_zero]
  refine wpAnyH_ready (rs := [6, 10]) (by kernel_rfl) (by simp) ?_
  refine AllReadyH.cons rfl (fun K hK => ?_) (AllReadyH.cons rfl (fun K hK => ?_) AllReadyH.nil)
  go_simp
  (with_reducible refine hc0.mono ?_)
  rintro e W1 ⟨rfl, b1⟩
  have HB1 : Hid (Below W0.drew.heap.size W0.drew W1) := b1
  clear b1
  clear hS
  try dsimp only
  refine Shut.out hK _ _ (hall.out W1 HB1.out) (fun hS => ?_)
  try simp only [Act.put, List.setIfInBounds_toArray, List.set_cons_zero, List.set_cons_succ, List.getElem_toArray, List.getElem_cons_succ, List.getElem_cons_zero]
  refine wpAnyH_take (i := 7) (v := ?gv7) rfl (by kernel_rfl) (by kernel_rfl) (by kernel_rfl) (fun _ _ _ h => h) (Or.inl ⟨by kernel_rfl, ?gy7⟩) (by assumption) ?gr7
  case gy7 => (intro w' hSw; (try dsimp only at hSw); go_simp; (try with_reducible rfl))
  try simp only [Act.put, List.setIfInBounds_toArray, List.set_cons_zero, List.set_cons_succ, List.getElem_toArray, List.getElem_cons_succ, List.getElem_cons_zero]
  refine wpAnyH_take (i := 8) (v := ?gv8) rfl (by kernel_rfl) (by kernel_rfl) (by kernel_rfl) (fun _ _ _ h => h) (Or.inl ⟨by kernel_rfl, ?gy8⟩) (by assumption) ?gr8
  case gy8 => (intro w' hSw; (try dsimp only at hSw); go_simp; (try with_reducible rfl))
  try simp only [Act.put, List.setIfInBounds_toArray, List.set_cons_zero, List.set_cons_succ, List.getElem_toArray, List.getElem_cons_succ, List.getElem_cons_zero]
  refine wpAnyH_take (i := 9) (v := ?gv9) rfl (by kernel_rfl) (by kernel_rfl) (by kernel_rfl) (fun _ _ _ h => h) (Or.inl ⟨by kernel_rfl, ?gy9⟩) (by assumption) ?gr9
  case gy9 => (intro w' hSw; (try dsimp only at hSw); go_simp; (try with_reducible rfl))
  try simp only [Act.put, List.setIfInBounds_toArray, List.set_cons_zero, List.set_cons_succ, List.getElem_toArray, List.getElem_cons_succ, List.getElem_cons_zero]
  refine wpAnyH_ready (rs := [10]) (by kernel_rfl) (by simp) ?_
  refine AllReadyH.cons rfl (fun K hK => ?_) AllReadyH.nil
  go_simp
  have b2 : Below W1.heap.size W1 (W1.alloc (.cells #[.pointer none] 127)) := (Below.refl _ _).alloc (Nat.le_refl _) _
  have HB2 : Hid (Below W0.drew.heap.size W0.drew (W1.alloc (.cells #[.pointer none] 127))) := HB1.out.trans (b2.mono HB1.out.size)
  have zT := Blk.new W1 127 #[.pointer none]
  obtain ⟨Kb, hT⟩ : ∃ T, W1.heap.size = T := ⟨_, rfl⟩
  rw [hT] at zT
  have hTn : W0.drew.heap.size ≤ Kb := (by rw [← hT]; exact HB1.out.size)
  obtain ⟨W2, hW2⟩ : ∃ W, W1.alloc (.cells #[.pointer none] 127) = W := ⟨_, rfl⟩
  rw [hW2] at HB2 zT ⊢
  clear hW2 b2
  have HZT : Hid (Blk W2 Kb 127 #[.pointer none] ∧ W0.drew.heap.size ≤ Kb) := ⟨zT, hTn⟩
  clear zT hTn
  try rw [hT]
  clear hS
  try dsimp only
  refine Shut.out hK _ _ (hall.out _ HB2.out) (fun hS => ?_)
  try simp only [Act.put, List.setIfInBounds_toArray, List.set_cons_zero, List.set_cons_succ, List.getElem_toArray, List.getElem_cons_succ, List.getElem_cons_zero]
  refine wpAnyH_ready (rs := [11]) (by kernel_rfl) (by simp) ?_
  refine AllReadyH.cons rfl (fun K hK => ?_) AllReadyH.nil
  go_simp
  have zT := HZT.out.1
  have t0 := zT.cell 0
  have u0 := zT.frozen 0
  simp at t0
  clear zT
  go_simp
  clear hS
  try dsimp only
  refine Shut.out hK _ _ (hall.out (W2.setCell ⟨Kb, 0, none⟩ (.pointer po)) (HB2.out.setCell (p := ⟨Kb, 0, none⟩) HZT.out.2 _)) (fun hS => ?_)
  try simp only [Act.put, List.setIfInBounds_toArray, List.set_cons_zero, List.set_cons_succ, List.getElem_toArray, List.getElem_cons_succ, List.getElem_cons_zero]
  refine wpAnyH_done (by kernel_rfl) ?_ _
  refine wpOp_last rfl (fun K hK => ?_)
  clear hS
  go_simp
  refine Shut.out hK _ _ (NoPanic.normal ?_)
  rotate_left 1
  go_simp
  clear hS
  try dsimp only
  refine Shut.out hK _ _ (hall.out _ HBA.out) (fun hS => ?_)
  try simp only [Act.put, List.setIfInBounds_toArray, List.set_cons_zero, List.set_cons_succ, List.getElem_toArray, List.getElem_cons_succ, List.getElem_cons_zero]
  refine wpAnyH_ready (rs := [6]) (by kernel_rfl) (by simp) ?_
  refine AllReadyH.cons rfl (fun K hK => ?_) AllReadyH.nil
  go_simp
  (with_reducible refine hc1.mono ?_)
  rintro e W2 ⟨rfl, b1⟩
  have HB2 : Hid (Below W0.drew.heap.size W0.drew W2) := HBA.out.trans (b1.mono HBA.out.size)
  have zT := (Blk.new W0.drew 127 #[.pointer none]).keep b1
  obtain ⟨Kb, hT⟩ : ∃ T, W0.heap.size = T := ⟨_, rfl⟩
  have hT2 : W0.drew.heap.size = Kb := hT
  rw [hT2] at zT
  have HZT : Hid (Blk W2 Kb 127 #[.pointer none] ∧ W0.drew.heap.size ≤ Kb) := ⟨zT, by rw [hT2]; exact Nat.le_refl _⟩
  clear b1 zT hT2
  try rw [hT]
  clear hS
  try dsimp only
  refine Shut.out hK _ _ (hall.out W2 HB2.out) (fun hS => ?_)
  try simp only [Act.put, List.setIfInBounds_toArray, List.set_cons_zero, List.set_cons_succ, List.getElem_toArray, List.getElem_cons_succ, List.getElem_cons_zero]
  refine wpAnyH_take (i := 7) (v := ?gv10) rfl (by kernel_rfl) (by kernel_rfl) (by kernel_rfl) (fun _ _ _ h => h) (Or.inl ⟨by kernel_rfl, ?gy10⟩) (by assumption) ?gr10
  case gy10 => (intro w' hSw; (try dsimp only at hSw); go_simp; (try with_reducible rfl))
  try simp only [Act.put, List.setIfInBounds_toArray, List.set_cons_zero, List.set_cons_succ, List.getElem_toArray, List.getElem_cons_succ, List.getElem_cons_zero]
  refine wpAnyH_take (i := 8) (v := ?gv11) rfl (by kernel_rfl) (by kernel_rfl) (by kernel_rfl) (fun _ _ _ h => h) (Or.inl ⟨by kernel_rfl, ?gy11⟩) (by assumption) ?gr11
  case gy11 => (intro w' hSw; (try dsimp only at hSw); go_simp; (try with_reducible rfl))
  try simp only [Act.put, List.setIfInBounds_toArray, List.set_cons_zero, List.set_cons_succ, List.getElem_toArray, List.getElem_cons_succ, List.getElem_cons_zero]
  refine wpAnyH_take (i := 9) (v := ?gv12) rfl (by kernel_rfl) (by kernel_rfl) (by kernel_rfl) (fun _ _ _ h => h) (Or.inl ⟨by kernel_rfl, ?gy12⟩) (by assumption) ?gr12
  case gy12 => (intro w' hSw; (try dsimp only at hSw); go_simp; (try with_reducible rfl))
  try simp only [Act.put, List.setIfInBounds_toArray, List.set_cons_zero, List.set_cons_succ, List.getElem_toArray, List.getElem_cons_succ, List.getElem_cons_zero]
  refine wpAnyH_ready (rs := [11]) (by kernel_rfl) (by simp) ?_
  refine AllReadyH.cons rfl (fun K hK => ?_) AllReadyH.nil
  go_simp
  have zT := HZT.out.1
  have t0 := zT.cell 0
  have u0 := zT.frozen 0
  simp at t0
  clear zT
  go_simp
  clear hS
  try dsimp only
  refine Shut.out hK _ _ (hall.out (W2.setCell ⟨Kb, 0, none⟩ (.pointer po)) (HB2.out.setCell (p := ⟨Kb, 0, none⟩) HZT.out.2 _)) (fun hS => ?_)
  try simp only [Act.put, List.setIfInBounds_toArray, List.set_cons_zero, List.set_cons_succ, List.getElem_toArray, List.getElem_cons_succ, List.getElem_cons_zero]
  refine wpAnyH_done (by kernel_rfl) ?_ _
  refine wpOp_last rfl (fun K hK => ?_)
  clear hS
  go_simp
  refine Shut.out hK _ _ (NoPanic.normal ?_)
  rotate_left 1
  all_goals (
    clear t0 u0 s1 s2 hc0 hc1
    have hb3 : Below W0.drew.heap.size W0.drew (W2.setCell ⟨Kb, 0, none⟩ (.pointer po)) := HB2.out.setCell (p := ⟨Kb, 0, none⟩) HZT.out.2 _
    have zK := HZT.out.1.set 0 (.pointer po)
    have zQ := Blk.keep HZQ.out hb3
    have hKX : Kb ≠ X := by have := HZT.out.2; have := HZQ.out.lt; omega
    simp at zK
    obtain ⟨W3, hW3⟩ : ∃ W, W2.setCell ⟨Kb, 0, none⟩ (.pointer po) = W := ⟨_, rfl⟩
    rw [hW3] at hb3 zK zQ ⊢
    clear hW3
    have hb : Below w.heap.size w W3 := HD.out.trans (hb3.mono HD.out.size)
    obtain ⟨hpo, hev⟩ := HPO.out
    by_cases hc : prC ks x nb = 0
    · obtain ⟨k, f, rfl, hf, h8⟩ := pr_zero hc
      rw [if_pos hc, Int.toNat_natCast] at hpo
      rw [hc, errV_zero] at hev
      simp only [Value.pointer.injEq] at hpo
      subst hpo hev
      have htp : totP (f.ps.map PgR.D) ≤ 1048576 := by
        have := totB_mem (b := f.D) (bs := ks.map FkR.D) (List.mem_map_of_mem (List.mem_of_getElem? hf))
        have h2 : f.D.ps = f.ps.map PgR.D := rfl
        rw [h2] at this
        omega
      have hcall2 := opPrI X F G n k Kb Q gb nb cb zs ks f ops fa m fc fs down w0 W3 (HDO.out _ hb) (HFR.out _ hb) ho hfs hf hz hnb h8 (HR.out f (List.mem_of_getElem? hf)) htp zK zQ hKX (by omega)
      have HB3 : Hid _ := hb
      have HC : Hid (prC ks (k : Int) nb = 0) := hc
      have y0 := zK.cell 0
      simp at y0
      clear hc hf h8 htp hb hb3 zK zQ HPO HDO HFR HR HZT HB2 hall HZQ
      go_wp2_with fail
      refine hcall2.mono ?_
      rintro e w2 ⟨he, d2, sv2⟩
      have HA2 : Hid (P e w2) := by
        show P e w2
        rw [← HGP.out, HC.out, Int.toNat_natCast]
        exact ⟨he, d2, (Below.sv HB3.out _).trans sv2⟩
      clear d2 sv2 hcall2 HGP HC
      rcases evEnd_cases 0 (faD ops fs) with ⟨v, e1, (rfl | ⟨c, rfl⟩)⟩ | e1
      · rw [e1] at he
        subst he
        go_wp2
        exact HA2.out
      · rw [e1] at he
        subst he
        go_wp2
        exact HA2.out
      · rw [e1] at he
        subst he
        go_wp2
        first | exact HA2.out | exact ⟨rfl, HA2.out⟩
    · rw [errV_some hc] at hev
      have HN : Hid _ := And.intro (HDO.out _ hb) (Below.sv hb [X, G])
      have HC : Hid _ := And.intro hc hev
      obtain ⟨c, hcc⟩ : ∃ c, prC ks x nb = c := ⟨_, rfl⟩
      rw [hcc] at hev
      subst hev
      clear hb hb3 zK zQ HPO HDO HFR HR HZT HB2 hall HZQ hcc hc
      go_wp2
      rw [← HGP.out]
      obtain ⟨h1, h2⟩ := HC.out
      refine ⟨?_, ?_, HN.out.2⟩
      · unfold evEnd
        rw [if_neg h1, errV_some h1, h2]
        rfl
      · rw [if_neg h1, if_neg h1]
        exact HN.out.1)
set_option maxRecDepth 100000 in
set_option maxHeartbeats 4000000 in
theorem ev_throughP {X F G n B Q gb nb cb : Nat} {ks kA kB : List FkR} {kC : Int → List FkR} {x cd : Int} {o : Option FtD} {ops : Int} {fa : Option Addr} {m fc : Nat} {down : Bool} {w0 w : World} (x0 : w.cell? ⟨B, 0, none⟩ = some (.int .i64 x)) (x1 : w.cell? ⟨Q, 0, none⟩ = some (.slice (some ⟨gb, 0, none⟩) nb cb)) (hcall' : Calls Tryz.prog 50 #[.pointer (some ⟨X, 0, none⟩), .int .i64 x, .slice (some ⟨gb, 0, none⟩) nb cb] w (EvA w0 w X F G n cd ks kA kB kC o ops fa m fc down)) :
    Calls Tryz.prog 49 #[.pointer (some ⟨X, 0, none⟩), .pointer (some ⟨B, 0, none⟩), .pointer (some ⟨Q, 0, none⟩)] w (EvA w0 w X F G n cd ks kA kB kC o ops fa m fc down) := by
  generalize hGP : EvA w0 w X F G n cd ks kA kB kC o ops fa m fc down = P at hcall' ⊢
  have HGP : Hid _ := hGP
  clear hGP
  go_enter Tryz.func49, Tryz.ntmps49
  go_wp2_with fail
  refine hcall'.mono ?_
  intro e w1 hA
  have HA : Hid _ := hA
  rw [← HGP.out] at hA
  obtain ⟨he, _, _⟩ := hA
  clear HGP hcall'
  rcases evEnd_cases cd o with ⟨v, e1, (rfl | ⟨c, rfl⟩)⟩ | e1
  · rw [e1] at he
    subst he
    go_wp2
    exact HA.out
  · rw [e1] at he
    subst he
    go_wp2
    exact HA.out
  · rw [e1] at he
    subst he
    go_wp2
    first | exact HA.out | exact ⟨rfl, HA.out⟩
set_option maxHeartbeats 1600000 in
theorem dvPr1I (X F G n B Q gb nb cb : Nat) (zs : List Int) (ks : List FkR) (x : Int) (ops : Int) (fa : Option Addr) (m fc : Nat) (fs : List FtD) (down : Bool) (w0 w : World) (hn : n ≤ 1048576) (hz : zs.length = nb) (hnb : nb ≤ cb ∧ nb ≤ 1048576) (h : DO w0 w X F G n ks ops fa m fc down) (hfr : FR w fa m fs) (ho : 0 ≤ ops ∧ ops < 100000) (hfs : ∀ t ∈ fs, ftOk t = true) (hr : ∀ f ∈ ks, ∀ p ∈ f.ps, ∀ W : World, Below w0.heap.size w0 W → Rd W p.a p.zs) (ht : totB (ks.map FkR.D) ≤ 1048576) (hB : Blk w B 3 #[.int .i64 x]) (hQ : Blk w Q 22 #[.slice (some ⟨gb, 0, none⟩) nb cb]) :
    Calls Tryz.prog 49 #[.pointer (some ⟨X, 0, none⟩), .pointer (some ⟨B, 0, none⟩), .pointer (some ⟨Q, 0, none⟩)] w (EvA w0 w X F G n (prC ks x nb) ks (prAt ks x.toNat ⟨true, (some ⟨gb, 0, none⟩), cb, zs⟩) (badAt ks x.toNat) (fun kp => prAt ks x.toNat ⟨true, (some ⟨gb, 0, none⟩), cb, zs.take kp.toNat⟩) (faD ops fs) ops fa m fc down) := by
  have hcall := dvPrI X F G n gb nb cb zs ks x ops fa m fc fs down w0 w hn hz hnb h hfr ho hfs hr ht
  have x0 := hB.cell 0
  have x1 := hQ.cell 0
  simp at x0 x1
  exact ev_throughP x0 x1 hcall
end

section
open Go.RowKit
theorem ok_small {ds : List BkD} (h : chipOkB ds = true) : (∀ b ∈ ds, totP b.ps ≤ 3208) ∧ totB ds ≤ 77016 := by
  rw [chipOkB_iff] at h
  have hb : ∀ b ∈ ds, totP b.ps ≤ 3208 := fun b hb => by
    have h1 := h.2.2 b hb
    have h2 := totP_bound b.ps (fun p hp => by
      obtain ⟨i, hi⟩ := List.mem_iff_getElem?.1 hp
      have := (h1.2.2.2 i p hi).1
      unfold pgOk at this
      simp at this
      exact this.1)
    rw [h1.1] at h2
    omega
  have h3 := totB_bound ds hb
  have h4 := h.2.1
  exact ⟨hb, by omega⟩
theorem Rd.takeB {w : World} {a : Option Addr} {zs : List Int} (h : Rd w a zs) (q : Nat) : Rd w a (zs.take q) := by
  rcases h with h | ⟨b, off, e, hc⟩
  · exact .inl (by rw [h]; simp)
  · refine .inr ⟨b, off, e, fun j hj => ?_⟩
    rw [List.length_take] at hj
    rw [hc j (by omega)]
    have hq : j < q := by omega
    simp [List.getD_eq_getElem?_getD, hq]
theorem prAt_D (ks : List FkR) (k : Nat) (ba : Option Addr) (c : Nat) (zs : List Int) : (prAt ks k ⟨true, ba, c, zs⟩).map FkR.D = progAt (ks.map FkR.D) k zs := by
  unfold prAt progAt
  rw [List.getElem?_map]
  cases hk : ks[k]? with
  | none => rfl
  | some f =>
    simp only [Option.map_some]
    rw [List.map_set]
    simp only [FkR.D, FkR.pg, fkN, List.map_set, PgR.D]
theorem pr_goodAt {w : World} {ks : List FkR} {k : Nat} {ba : Option Addr} {c : Nat} {zs : List Int} (h : FlGood w ks) (hs : (∀ b ∈ ks.map FkR.D, totP b.ps ≤ 3208) ∧ totB (ks.map FkR.D) ≤ 77016) (hz : zs.length ≤ 400) (hr : Rd w ba zs) : FlGood w (prAt ks k ⟨true, ba, c, zs⟩) := by
  refine ⟨fun f hf p hp => ?_, ?_⟩
  · unfold prAt at hf
    split at hf
    · rename_i g hg
      rcases List.mem_or_eq_of_mem_set hf with h1 | h1
      · exact h.1 f h1 p hp
      · subst h1
        have hp' : p ∈ g.ps.set (fkN g) ⟨true, ba, c, zs⟩ := hp
        rcases List.mem_or_eq_of_mem_set hp' with h2 | h2
        · exact h.1 g (List.mem_of_getElem? hg) p h2
        · subst h2; exact hr
    · exact h.1 f hf p hp
  · rw [prAt_D]
    unfold progAt
    split
    · rename_i b hb
      have h5 := totB_put (ks.map FkR.D) k ⟨b.ps.set (nextP b.ps) ⟨true, zs⟩, b.wear, b.bad⟩
      have h6 := totP_put b.ps (nextP b.ps) ⟨true, zs⟩
      have h7 := hs.1 b (List.mem_of_getElem? hb)
      have h8 := hs.2
      simp only at h5 h6
      omega
    · exact h.2
theorem pr_good {w : World} {ks : List FkR} {x : Int} {nb : Nat} {ba : Option Addr} {c : Nat} {zs : List Int} {o : Option FtD} (h : FlGood w ks) (hs : (∀ b ∈ ks.map FkR.D, totP b.ps ≤ 3208) ∧ totB (ks.map FkR.D) ≤ 77016) (hz : zs.length = nb) (hr : Rd w ba zs) : FlGood w (if prC ks x nb = 0 then opK (prAt ks x.toNat ⟨true, ba, c, zs⟩) (badAt ks x.toNat) (fun kp => prAt ks x.toNat ⟨true, ba, c, zs.take kp.toNat⟩) o else ks) := by
  by_cases hc : prC ks x nb = 0
  · have h4 : nb ≤ 400 := by
      unfold prC at hc
      split at hc
      · omega
      · omega
    have h0 := opK_all (P := FlGood w) 0 o (ks := ks) (a := prAt ks x.toNat ⟨true, ba, c, zs⟩) (c := fun kp => prAt ks x.toNat ⟨true, ba, c, zs.take kp.toNat⟩) h (pr_goodAt h hs (by omega) hr) (h.bad x.toNat) (fun t => pr_goodAt h hs (by rw [List.length_take]; omega) (hr.takeB _))
    rw [hc]
    exact h0
  · rw [if_neg hc]
    exact h
set_option maxRecDepth 100000 in
set_option maxHeartbeats 16000000 in
theorem behP (a : Option Addr) (n cap B : Nat) (bs : List BkR) (ops : Int) (fa : Option Addr) (m fc : Nat) (fs : List FtD) (down : Bool) (x : Int) (gb nb cb Q : Nat) (zs : List Int) (w : World) (ht : CR w a n bs) (hf : FR w fa m fs) (hB : Blk w B 3 #[.int .i64 x]) (hQ : Blk w Q 22 #[.slice (some ⟨gb, 0, none⟩) nb cb]) (hz : zs.length = nb) (hnb : nb ≤ cb ∧ nb ≤ 1048576) (hrz : Rd w (some ⟨gb, 0, none⟩) zs) (hE : EtCell w) :
    Calls Tryz.prog 48 #[.agg #[.slice a n cap, .int .i64 ops, .slice fa m fc, .bool down], .func (.func 49) #[] #[.pointer (some ⟨B, 0, none⟩), .pointer (some ⟨Q, 0, none⟩)]] w (DvCA w ⟨outDs (evCode (bs.map BkR.D) ops fs down (codeP true (bs.map BkR.D) x nb)) (faD ops fs) (bs.map BkR.D) (progAt (bs.map BkR.D) x.toNat zs) (badD (bs.map BkR.D) x.toNat) (fun t => progAt (bs.map BkR.D) x.toNat (zs.take t.toNat)), outOps (evCode (bs.map BkR.D) ops fs down (codeP true (bs.map BkR.D) x nb)) ops, fs, outDown (evCode (bs.map BkR.D) ops fs down (codeP true (bs.map BkR.D) x nb)) (faD ops fs) down⟩ (outCode (evCode (bs.map BkR.D) ops fs down (codeP true (bs.map BkR.D) x nb)) (faD ops fs))) := by
  have hnn := ht.n
  have B0 : Below w.heap.size w (((w.alloc (.cells #[.slice a n cap, .int .i64 ops, .slice fa m fc, .bool down] 29)).alloc (.cells #[.slice none 0 0, .int .i64 0, .slice none 0 0, .bool false] 29)).alloc (.cells #[.int .i64 0] 3)) := (((Below.refl _ w).alloc (Nat.le_refl _) _).alloc (by simp) _).alloc (by simp; omega) _
  have z0 := ((Blk.new w 29 #[.slice a n cap, .int .i64 ops, .slice fa m fc, .bool down]).alloc (.cells #[.slice none 0 0, .int .i64 0, .slice none 0 0, .bool false] 29)).alloc (.cells #[.int .i64 0] 3)
  have z1 := (Blk.new (w.alloc (.cells #[.slice a n cap, .int .i64 ops, .slice fa m fc, .bool down] 29)) 29 #[.slice none 0 0, .int .i64 0, .slice none 0 0, .bool false]).alloc (.cells #[.int .i64 0] 3)
  have z5 := Blk.new ((w.alloc (.cells #[.slice a n cap, .int .i64 ops, .slice fa m fc, .bool down] 29)).alloc (.cells #[.slice none 0 0, .int .i64 0, .slice none 0 0, .bool false] 29)) 3 #[.int .i64 0]
  simp only [World.size_alloc] at z1 z5
  have hws : (((w.alloc (.cells #[.slice a n cap, .int .i64 ops, .slice fa m fc, .bool down] 29)).alloc (.cells #[.slice none 0 0, .int .i64 0, .slice none 0 0, .bool false] 29)).alloc (.cells #[.int .i64 0] 3)).heap.size = w.heap.size + 1 + 1 + 1 := by simp
  obtain ⟨H, hH⟩ : ∃ H, w.heap.size = H := ⟨_, rfl⟩
  have HH : Hid (w.heap.size = H) := hH
  rw [hH] at z0 z1 z5 hws
  obtain ⟨CD, hCD⟩ : ∃ c, evCode (bs.map BkR.D) ops fs down (codeP true (bs.map BkR.D) x nb) = c := ⟨_, rfl⟩
  rw [hCD]
  have HCD0 : Hid _ := hCD
  generalize hGP : DvCA w ⟨outDs CD (faD ops fs) (bs.map BkR.D) (progAt (bs.map BkR.D) x.toNat zs) (badD (bs.map BkR.D) x.toNat) (fun t => progAt (bs.map BkR.D) x.toNat (zs.take t.toNat)), outOps CD ops, fs, outDown CD (faD ops fs) down⟩ (outCode CD (faD ops fs)) = P
  have HGP : Hid _ := hGP
  have hok := fun (W : World) (h1 : CR W a n bs) (h2 : FR W fa m fs) => devOkI a n cap bs ops fa m fc fs down W h1 h2
  obtain ⟨ok, hokk⟩ : ∃ ok, devB (bs.map BkR.D) ops fs = ok := ⟨_, rfl⟩
  rw [hokk] at hok
  have HOK : Hid _ := hokk
  have COK : Hid _ := hok
  have hmf : ∀ (fn : Fn) (first cap : Array Value) (w : World), (Instr.makeFunc fn first cap).run Tryz.prog w = .ok (.func fn first cap) w := fun _ _ _ _ => rfl
  clear hGP hCD hokk hok
  go_enter_defers Tryz.func48, Tryz.ntmps48
  go_upto_region 1 with fail
  obtain ⟨W0, hW0⟩ : ∃ W, ((w.alloc (.cells #[.slice a n cap, .int .i64 ops, .slice fa m fc, .bool down] 29)).alloc (.cells #[.slice none 0 0, .int .i64 0, .slice none 0 0, .bool false] 29)).alloc (.cells #[.int .i64 0] 3) = W := ⟨_, rfl⟩
  rw [hW0] at B0 z0 z1 z5 hws ⊢
  try rw [hH]
  clear hW0 hH
  have HW : Hid _ := hws
  have HT : Hid (CR W0 a n bs) := ht.keep B0
  have HF : Hid (FR W0 fa m fs) := hf.keep B0
  have HB0 : Hid (Below w.heap.size w W0) := B0
  have HZ0 : Hid (Blk W0 H 29 #[.slice a n cap, .int .i64 ops, .slice fa m fc, .bool down]) := z0
  have HZ1 : Hid (Blk W0 (H + 1) 29 #[.slice none 0 0, .int .i64 0, .slice none 0 0, .bool false]) := z1
  have HZ5 : Hid (Blk W0 (H + 1 + 1) 3 #[.int .i64 0]) := z5
  have HBB : Hid _ := And.intro (hB.keep B0) (And.intro (hQ.keep B0) (hrz.keep B0))
  have HE : Hid (EtCell W0) := hE.keep B0
  have x0 := z0.cell 0
  have x1 := z0.cell 1
  have x2 := z0.cell 2
  have x3 := z0.cell 3
  simp at x0 x1 x2 x3
  clear ht hf B0 z0 z1 z5 hB hE hQ hrz
  go_wp2_with fail
  refine (COK.out W0 HT.out HF.out).mono ?_
  rintro e w1 ⟨rfl, b1⟩
  have y0 := (Blk.keep HZ0.out b1).cell 0
  have y1 := (Blk.keep HZ0.out b1).cell 1
  have y2 := (Blk.keep HZ0.out b1).cell 2
  have y3 := (Blk.keep HZ0.out b1).cell 3
  simp at y0 y1 y2 y3
  clear x0 x1 x2 x3
  cases ok with
  | false =>
    have HCD : Hid (CD = 1) := by show _ = _; rw [← HCD0.out]; unfold evCode; rw [if_pos HOK.out]
    go_wp2_with fail
    refine (copyDevI a n cap bs ops fa m fc fs down w1 (HT.out.keep b1) (HF.out.keep b1)).mono ?_
    rintro e w2 ⟨aC, nC, cC, fC, mC, kC, tC, rfl, qC, hlC, b2⟩
    dsimp only at qC ⊢
    have B2 : Below W0.heap.size W0 w2 := b1.trans (b2.mono b1.size)
    have zr := Blk.keep HZ1.out B2
    have z5 := Blk.keep HZ5.out B2
    have r0 := zr.cell 0
    have r1 := zr.cell 1
    have r2 := zr.cell 2
    have r3 := zr.cell 3
    have f0 := zr.frozen 0
    have f1 := zr.frozen 1
    have f2 := zr.frozen 2
    have f3 := zr.frozen 3
    have zf := (((zr.set 0 (.slice aC nC cC)).set 1 (.int .i64 ops)).set 2 (.slice fC mC kC)).set 3 (.bool down)
    have t5 := (((z5.other (B' := H + 1) (by omega) 0 (.slice aC nC cC)).other (B' := H + 1) (by omega) 1 (.int .i64 ops)).other (B' := H + 1) (by omega) 2 (.slice fC mC kC)).other (B' := H + 1) (by omega) 3 (.bool down)
    have k0 := t5.cell 0
    have kf := t5.frozen 0
    have zf4 := zf.other (B' := H + 1 + 1) (by omega) 0 (.int .i64 1)
    have zf5 := t5.set 0 (.int .i64 1)
    have d0 := zf4.cell 0
    have d1 := zf4.cell 1
    have d2 := zf4.cell 2
    have d3 := zf4.cell 3
    have d4 := zf5.cell 0
    simp at r0 r1 r2 r3 k0 d0 d1 d2 d3 d4
    have HQ : Hid _ := And.intro qC (And.intro hlC B2)
    have HB1 : Hid (W0.heap.size ≤ w1.heap.size) := b1.size
    clear qC b1 b2 B2 zr zf hlC z5 t5 zf4 zf5 y0 y1 y2 y3
    go_wp2
    refine ⟨.tuple #[.agg #[.slice aC nC cC, .int .i64 ops, .slice fC mC kC, .bool down], .int .i64 1], by simp [results, Tryz.f48, go_sem, d0, d1, d2, d3, d4], ?_⟩
    rw [← HGP.out]
    have hcd := HCD.out
    have hw := HW.out
    have hH := HH.out
    obtain ⟨q, hl, B2⟩ := HQ.out
    have hb1 := HB1.out
    have bel : Below w.heap.size w w2 := HB0.out.trans (B2.mono HB0.out.size)
    rw [outs_no hcd (by decide)]
    have k : ∀ (W : World) (j i : Nat) (v : Value), j < w1.heap.size → NewDv W w1.heap.size aC nC cC fC mC kC (bs.map BkR.D) fs tC → NewDv (W.setCell ⟨j, i, none⟩ v) w1.heap.size aC nC cC fC mC kC (bs.map BkR.D) fs tC := fun W j i v hj h => h.set_below hj
    have s : ∀ (W : World) (j i : Nat) (v : Value), w.heap.size ≤ j → Below w.heap.size w W → Below w.heap.size w (W.setCell ⟨j, i, none⟩ v) := fun W j i v hj hb => hb.setCell (p := ⟨j, i, none⟩) hj v
    exact ⟨aC, nC, cC, fC, mC, kC, tC, rfl, (k _ _ _ _ (by omega) (k _ _ _ _ (by omega) (k _ _ _ _ (by omega) (k _ _ _ _ (by omega) (k _ _ _ _ (by omega) q))))).wider (by omega), hl, s _ _ _ _ (by omega) (s _ _ _ _ (by omega) (s _ _ _ _ (by omega) (s _ _ _ _ (by omega) (s _ _ _ _ (by omega) bel))))⟩
  | true =>
    have hdv := HOK.out
    unfold devB at hdv
    simp only [Bool.and_eq_true, decide_eq_true_eq] at hdv
    obtain ⟨⟨hck, hop0, hop1⟩, hfB⟩ := hdv
    by_cases hoff : down = true ∨ 100000 ≤ ops
    · have HCD : Hid (CD = 10) := by show _ = _; rw [← HCD0.out]; unfold evCode; rw [if_neg (by rw [HOK.out]; simp), if_pos hoff]
      have HOFF : Hid (down = true ∨ ops = 100000) := by rcases hoff with h | h; exact .inl h; exact .inr (by omega)
      clear hck hfB hoff hop0 hop1
      have hgo : (down = true) ∨ (down = false ∧ ops = 100000) := by
        rcases HOFF.out with h | h
        · exact .inl h
        · cases down
          · exact .inr ⟨rfl, h⟩
          · exact .inl rfl
      rcases hgo with hgo | ⟨hgo, hgo2⟩
      · subst hgo
        go_wp2_with fail
        refine (copyDevI a n cap bs ops fa m fc fs true w1 (HT.out.keep b1) (HF.out.keep b1)).mono ?_
        rintro e w2 ⟨aC, nC, cC, fC, mC, kC, tC, rfl, qC, hlC, b2⟩
        dsimp only at qC ⊢
        have B2 : Below W0.heap.size W0 w2 := b1.trans (b2.mono b1.size)
        have zr := Blk.keep HZ1.out B2
        have z5 := Blk.keep HZ5.out B2
        have r0 := zr.cell 0
        have r1 := zr.cell 1
        have r2 := zr.cell 2
        have r3 := zr.cell 3
        have f0 := zr.frozen 0
        have f1 := zr.frozen 1
        have f2 := zr.frozen 2
        have f3 := zr.frozen 3
        have zf := (((zr.set 0 (.slice aC nC cC)).set 1 (.int .i64 ops)).set 2 (.slice fC mC kC)).set 3 (.bool true)
        have t5 := (((z5.other (B' := H + 1) (by omega) 0 (.slice aC nC cC)).other (B' := H + 1) (by omega) 1 (.int .i64 ops)).other (B' := H + 1) (by omega) 2 (.slice fC mC kC)).other (B' := H + 1) (by omega) 3 (.bool true)
        have k0 := t5.cell 0
        have kf := t5.frozen 0
        have zf4 := zf.other (B' := H + 1 + 1) (by omega) 0 (.int .i64 10)
        have zf5 := t5.set 0 (.int .i64 10)
        have d0 := zf4.cell 0
        have d1 := zf4.cell 1
        have d2 := zf4.cell 2
        have d3 := zf4.cell 3
        have d4 := zf5.cell 0
        simp at r0 r1 r2 r3 k0 d0 d1 d2 d3 d4
        have HQ : Hid _ := And.intro qC (And.intro hlC B2)
        have HB1 : Hid (W0.heap.size ≤ w1.heap.size) := b1.size
        clear qC b1 b2 B2 zr zf hlC z5 t5 zf4 zf5 y0 y1 y2 y3
        go_wp2
        refine ⟨.tuple #[.agg #[.slice aC nC cC, .int .i64 ops, .slice fC mC kC, .bool true], .int .i64 10], by simp [results, Tryz.f48, go_sem, d0, d1, d2, d3, d4], ?_⟩
        rw [← HGP.out]
        have hcd := HCD.out
        have hw := HW.out
        have hH := HH.out
        obtain ⟨q, hl, B2⟩ := HQ.out
        have hb1 := HB1.out
        have bel : Below w.heap.size w w2 := HB0.out.trans (B2.mono HB0.out.size)
        rw [outs_no hcd (by decide)]
        have k : ∀ (W : World) (j i : Nat) (v : Value), j < w1.heap.size → NewDv W w1.heap.size aC nC cC fC mC kC (bs.map BkR.D) fs tC → NewDv (W.setCell ⟨j, i, none⟩ v) w1.heap.size aC nC cC fC mC kC (bs.map BkR.D) fs tC := fun W j i v hj h => h.set_below hj
        have s : ∀ (W : World) (j i : Nat) (v : Value), w.heap.size ≤ j → Below w.heap.size w W → Below w.heap.size w (W.setCell ⟨j, i, none⟩ v) := fun W j i v hj hb => hb.setCell (p := ⟨j, i, none⟩) hj v
        exact ⟨aC, nC, cC, fC, mC, kC, tC, rfl, (k _ _ _ _ (by omega) (k _ _ _ _ (by omega) (k _ _ _ _ (by omega) (k _ _ _ _ (by omega) (k _ _ _ _ (by omega) q))))).wider (by omega), hl, s _ _ _ _ (by omega) (s _ _ _ _ (by omega) (s _ _ _ _ (by omega) (s _ _ _ _ (by omega) (s _ _ _ _ (by omega) bel))))⟩
      · subst hgo hgo2
        go_wp2_with fail
        refine (copyDevI a n cap bs 100000 fa m fc fs false w1 (HT.out.keep b1) (HF.out.keep b1)).mono ?_
        rintro e w2 ⟨aC, nC, cC, fC, mC, kC, tC, rfl, qC, hlC, b2⟩
        dsimp only at qC ⊢
        have B2 : Below W0.heap.size W0 w2 := b1.trans (b2.mono b1.size)
        have zr := Blk.keep HZ1.out B2
        have z5 := Blk.keep HZ5.out B2
        have r0 := zr.cell 0
        have r1 := zr.cell 1
        have r2 := zr.cell 2
        have r3 := zr.cell 3
        have f0 := zr.frozen 0
        have f1 := zr.frozen 1
        have f2 := zr.frozen 2
        have f3 := zr.frozen 3
        have zf := (((zr.set 0 (.slice aC nC cC)).set 1 (.int .i64 100000)).set 2 (.slice fC mC kC)).set 3 (.bool false)
        have t5 := (((z5.other (B' := H + 1) (by omega) 0 (.slice aC nC cC)).other (B' := H + 1) (by omega) 1 (.int .i64 100000)).other (B' := H + 1) (by omega) 2 (.slice fC mC kC)).other (B' := H + 1) (by omega) 3 (.bool false)
        have k0 := t5.cell 0
        have kf := t5.frozen 0
        have zf4 := zf.other (B' := H + 1 + 1) (by omega) 0 (.int .i64 10)
        have zf5 := t5.set 0 (.int .i64 10)
        have d0 := zf4.cell 0
        have d1 := zf4.cell 1
        have d2 := zf4.cell 2
        have d3 := zf4.cell 3
        have d4 := zf5.cell 0
        simp at r0 r1 r2 r3 k0 d0 d1 d2 d3 d4
        have HQ : Hid _ := And.intro qC (And.intro hlC B2)
        have HB1 : Hid (W0.heap.size ≤ w1.heap.size) := b1.size
        clear qC b1 b2 B2 zr zf hlC z5 t5 zf4 zf5 y0 y1 y2 y3
        go_wp2
        refine ⟨.tuple #[.agg #[.slice aC nC cC, .int .i64 100000, .slice fC mC kC, .bool false], .int .i64 10], by simp [results, Tryz.f48, go_sem, d0, d1, d2, d3, d4], ?_⟩
        rw [← HGP.out]
        have hcd := HCD.out
        have hw := HW.out
        have hH := HH.out
        obtain ⟨q, hl, B2⟩ := HQ.out
        have hb1 := HB1.out
        have bel : Below w.heap.size w w2 := HB0.out.trans (B2.mono HB0.out.size)
        rw [outs_no hcd (by decide)]
        have k : ∀ (W : World) (j i : Nat) (v : Value), j < w1.heap.size → NewDv W w1.heap.size aC nC cC fC mC kC (bs.map BkR.D) fs tC → NewDv (W.setCell ⟨j, i, none⟩ v) w1.heap.size aC nC cC fC mC kC (bs.map BkR.D) fs tC := fun W j i v hj h => h.set_below hj
        have s : ∀ (W : World) (j i : Nat) (v : Value), w.heap.size ≤ j → Below w.heap.size w W → Below w.heap.size w (W.setCell ⟨j, i, none⟩ v) := fun W j i v hj hb => hb.setCell (p := ⟨j, i, none⟩) hj v
        exact ⟨aC, nC, cC, fC, mC, kC, tC, rfl, (k _ _ _ _ (by omega) (k _ _ _ _ (by omega) (k _ _ _ _ (by omega) (k _ _ _ _ (by omega) (k _ _ _ _ (by omega) q))))).wider (by omega), hl, s _ _ _ _ (by omega) (s _ _ _ _ (by omega) (s _ _ _ _ (by omega) (s _ _ _ _ (by omega) (s _ _ _ _ (by omega) bel))))⟩
    · have hdn : down = false := by cases down; rfl; exact absurd (.inl rfl) hoff
      subst hdn
      have hop : 0 ≤ ops ∧ ops < 100000 := by omega
      have hne : (ops == 100000) = false := by simp; omega
      obtain ⟨ks, hfl, hfw⟩ := ok_flash hck
      have HCD : Hid (CD = codeP true (bs.map BkR.D) x nb) := by show _ = _; rw [← HCD0.out]; unfold evCode; rw [if_neg (by rw [HOK.out]; simp), if_neg hoff]
      have hfsok : ∀ t ∈ fs, ftOk t = true := by
        rw [faultsB_asc] at hfB
        simp only [Bool.and_eq_true] at hfB
        exact List.all_eq_true.1 hfB.2.1
      have hck2 := hck
      clear hck hfB hoff hop0 hop1
      go_wp2_with fail
      refine (deviceOfI a n cap bs ks ops fa m fc false w1 (HT.out.keep b1) hfl).mono ?_
      rintro e w2 ⟨X, F, G, rfl, do2⟩
      clear y0 y1 y2 y3
      have b2 := do2.fo.bel
      have b3 : Below w2.heap.size w2 (w2.alloc (.cells #[.pointer (some ⟨X, 0, none⟩)] 82)) := (Below.refl _ _).alloc (Nat.le_refl _) _
      have z6 := Blk.new w2 82 #[.pointer (some ⟨X, 0, none⟩)]
      have do3 := do2.keep b3
      have hXP : X < w2.heap.size := do2.x.lt
      have hGP6 : G < w2.heap.size := do2.fo.g.lt (g := G) rfl
      obtain ⟨P6, hP6⟩ : ∃ P, w2.heap.size = P := ⟨_, rfl⟩
      have B13 := b2.trans (b3.mono b2.size)
      rw [hP6] at z6 hXP hGP6
      clear do2 b2
      go_upto_region 7 with fail
      obtain ⟨w3, hw3⟩ : ∃ W, w2.alloc (.cells #[.pointer (some ⟨X, 0, none⟩)] 82) = W := ⟨_, rfl⟩
      rw [hw3] at b3 z6 do3 B13 ⊢
      try rw [hP6]
      clear hw3 b3 hP6
      have x6 := z6.cell 0
      simp at x6
      have FR3 : FR w3 fa m fs := (HF.out.keep b1).keep B13
      have hB3 := (Blk.keep HBB.out.1 b1).keep B13
      have hQ3 := (Blk.keep HBB.out.2.1 b1).keep B13
      have hcall := dvPr1I X F G n B Q gb nb cb zs ks x ops fa m fc fs false w1 w3 hnn hz hnb do3 FR3 hop hfsok (fun f hf p hp W hW => (fl_rd (HT.out.keep b1) hfl f hf p hp).keep hW) (by rw [hfl.D]; exact HT.out.tot) hB3 hQ3
      have hcd : CD = prC ks x nb := HCD.out.trans (pr_code hfl x nb).symm
      have hg1 : FlGood w1 ks := ⟨fl_rd (HT.out.keep b1) hfl, by rw [hfl.D]; exact HT.out.tot⟩
      have hg : FlGood w1 (if prC ks x nb = 0 then opK (prAt ks x.toNat ⟨true, (some ⟨gb, 0, none⟩), cb, zs⟩) (badAt ks x.toNat) (fun kp => prAt ks x.toNat ⟨true, (some ⟨gb, 0, none⟩), cb, zs.take kp.toNat⟩) (faD ops fs) else ks) := pr_good hg1 (by rw [hfl.D]; exact ok_small hck2) hz (HBB.out.2.2.keep b1)
      have hD : (if prC ks x nb = 0 then opK (prAt ks x.toNat ⟨true, (some ⟨gb, 0, none⟩), cb, zs⟩) (badAt ks x.toNat) (fun kp => prAt ks x.toNat ⟨true, (some ⟨gb, 0, none⟩), cb, zs.take kp.toNat⟩) (faD ops fs) else ks).map FkR.D = outDs CD (faD ops fs) (bs.map BkR.D) (progAt (bs.map BkR.D) x.toNat zs) (badD (bs.map BkR.D) x.toNat) (fun t => progAt (bs.map BkR.D) x.toNat (zs.take t.toNat)) := by
        rw [opK_D, hcd]
        simp only [prAt_D, badAt_D, hfl.D]
      have hO : (if prC ks x nb = 0 then ops + 1 else ops) = outOps CD ops := by rw [hcd]; rfl
      have HFF : Hid (∀ W : World, Below w1.heap.size w1 W → FR W fa m fs) := fun W h => (HF.out.keep b1).keep h
      have HZ1w : Hid (Blk w1 (H + 1) 29 #[.slice none 0 0, .int .i64 0, .slice none 0 0, .bool false]) := Blk.keep HZ1.out b1
      have HZ5w : Hid (Blk w1 (H + 1 + 1) 3 #[.int .i64 0]) := Blk.keep HZ5.out b1
      have HEw : Hid (EtCell w1) := HE.out.keep b1
      have hsW : H + 1 + 1 + 1 ≤ w1.heap.size := by have := b1.size; have := HW.out; omega
      have HBw : Hid (Below w.heap.size w w1) := HB0.out.trans (b1.mono HB0.out.size)
      have hXn : w1.heap.size ≤ X := do3.xn
      have hHw : w.heap.size = H := HH.out
      clear b1 hg1 FR3 hB3 hQ3 hck2 HCD HCD0 HOK COK HT HF HB0 HZ0 HZ1 HZ5 HBB HE hop hfsok
      go_wp2_with fail
      refine hcall.mono ?_
      rintro e w4 ⟨he, do4, sv4⟩
      rw [hO] at do4
      generalize (if prC ks x nb = 0 then opK (prAt ks x.toNat ⟨true, (some ⟨gb, 0, none⟩), cb, zs⟩) (badAt ks x.toNat) (fun kp => prAt ks x.toNat ⟨true, (some ⟨gb, 0, none⟩), cb, zs.take kp.toNat⟩) (faD ops fs) else ks) = ks' at hg hD do4
      rw [← hcd] at he
      have B14 : Below w1.heap.size w1 w4 := do4.fo.bel
      have h6 := Blk.svs z6 sv4 (by simp; omega)
      have h4 := Blk.keep HZ1w.out B14
      have h5 := Blk.keep HZ5w.out B14
      have HDD : Hid _ := hD
      have HGG : Hid _ := hg
      clear hcall hO hD hg x6 z6 sv4 do3 hcd hfl hfw
      by_cases hp : panD CD (faD ops fs)
      · obtain ⟨e1, e2, e3⟩ := evEnd_pan hp
        rw [e1] at he
        subst he
        have HEQ : Hid _ := And.intro e2 e3
        have B15 : Below w1.heap.size w1 (w4.setCell ⟨X, 3, none⟩ (.bool true)) := B14.setCell (p := ⟨X, 3, none⟩) hXn _
        have hcat := catchI X F G n P6 (H + 1) (H + 1 + 1) ks' (outOps CD ops) fa m fc fs false 149 (.int .i64 10) [] w1 w4 do4 (HFF.out _ B15) (fun f hf p hp => (HGG.out.1 f hf p hp).keep B15) HGG.out.2 h6 h4 h5 (by omega) (by omega) (by omega) (by omega)
        have HB4 : Hid _ := B14
        clear e1 e2 e3 hp do4 h6 h4 h5 B15 B14
        go_wp2
        refine leaves_cons (f := 95) (args := #[.pointer (some ⟨P6, 0, none⟩), .pointer (some ⟨H + 1, 0, none⟩), .pointer (some ⟨H + 1 + 1, 0, none⟩)]) (by simp) (by simp [go_sem]) ?_
        refine hcat.mono ?_
        rintro e u' w5 ⟨rfl, rfl, aC, nC, cC, fC, mC, kC, tC, hd, hl, z4, z5, sv5⟩
        dsimp only at hd z4 ⊢
        have d0 := z4.cell 0
        have d1 := z4.cell 1
        have d2 := z4.cell 2
        have d3 := z4.cell 3
        have d4 := z5.cell 0
        simp at d0 d1 d2 d3 d4
        refine ⟨.tuple #[.agg #[.slice aC nC cC, .int .i64 (outOps CD ops), .slice fC mC kC, .bool true], .int .i64 10], by simp [results, Tryz.f48, go_sem, d0, d1, d2, d3, d4], ?_⟩
        rw [← HGP.out]
        obtain ⟨e2, e3⟩ := HEQ.out
        rw [e2, e3, ← HDD.out]
        have hb4 := HB4.out
        have hbw := HBw.out
        have bel4 : Below w.heap.size w w4 := hbw.trans (hb4.mono hbw.size)
        have bel : Below w.heap.size w w5 := Below.svs bel4 sv5 (fun g hg => by have := hbw.size; simp at hg; omega) (Nat.le_refl _)
        exact ⟨aC, nC, cC, fC, mC, kC, tC, rfl, hd.wider bel4.size, hl, bel⟩
      · obtain ⟨e1, e3⟩ := evEnd_ret hp
        rw [e1] at he
        subst he
        have HEQ : Hid _ := e3 false
        obtain ⟨c, hc⟩ : ∃ c, outCode CD (faD ops fs) = c := ⟨_, rfl⟩
        rw [hc]
        have HC : Hid _ := hc
        have hho := dvHandI X F G n ks' (outOps CD ops) fa m fc fs false w1 w4 do4 (HFF.out _ B14) (fun f hf p hp => (HGG.out.1 f hf p hp).keep B14) HGG.out.2
        have q6 := h6.cell 0
        simp at q6
        clear e1 e3 hp do4 hc h6
        go_wp2_with fail
        refine hho.mono ?_
        rintro e w5 ⟨aC, nC, cC, fC, mC, kC, tC, rfl, hd, hl, b5⟩
        dsimp only at hd ⊢
        have B15 := B14.trans (b5.mono B14.size)
        clear hho q6
        go_wp2_with fail
        refine (codeOfI c w5 (HEw.out.keep B15)).mono ?_
        rintro e w6 ⟨rfl, b6⟩
        have zr := (h4.keep b5).keep b6
        have z5 := (h5.keep b5).keep b6
        have r0 := zr.cell 0
        have r1 := zr.cell 1
        have r2 := zr.cell 2
        have r3 := zr.cell 3
        have f0 := zr.frozen 0
        have f1 := zr.frozen 1
        have f2 := zr.frozen 2
        have f3 := zr.frozen 3
        have zf := (((zr.set 0 (.slice aC nC cC)).set 1 (.int .i64 (outOps CD ops))).set 2 (.slice fC mC kC)).set 3 (.bool false)
        have t5 := (((z5.other (B' := H + 1) (by omega) 0 (.slice aC nC cC)).other (B' := H + 1) (by omega) 1 (.int .i64 (outOps CD ops))).other (B' := H + 1) (by omega) 2 (.slice fC mC kC)).other (B' := H + 1) (by omega) 3 (.bool false)
        have k0 := t5.cell 0
        have kf := t5.frozen 0
        have zf4 := zf.other (B' := H + 1 + 1) (by omega) 0 (.int .i64 c)
        have zf5 := t5.set 0 (.int .i64 c)
        have d0 := zf4.cell 0
        have d1 := zf4.cell 1
        have d2 := zf4.cell 2
        have d3 := zf4.cell 3
        have d4 := zf5.cell 0
        simp at r0 r1 r2 r3 k0 d0 d1 d2 d3 d4
        have HN : Hid (NewDv w6 w4.heap.size aC nC cC fC mC kC (ks'.map FkR.D) fs tC ∧ tC.length = nC ∧ Below w1.heap.size w1 w6 ∧ w1.heap.size ≤ w4.heap.size) := ⟨hd.keep b6, hl, B15.trans (b6.mono B15.size), B14.size⟩
        clear hd hl b5 b6 B14 B15 zr z5 zf t5 zf4 zf5 h4 h5
        go_wp2
        refine leaves_cons (f := 95) (args := #[.pointer (some ⟨P6, 0, none⟩), .pointer (some ⟨H + 1, 0, none⟩), .pointer (some ⟨H + 1 + 1, 0, none⟩)]) (by simp) (by simp [go_sem]) ?_
        refine (idleI P6 (H + 1) (H + 1 + 1) _).mono ?_
        rintro e u' w7 ⟨rfl, rfl, hw7⟩
        obtain rfl := hw7.symm
        refine ⟨.tuple #[.agg #[.slice aC nC cC, .int .i64 (outOps CD ops), .slice fC mC kC, .bool false], .int .i64 c], by simp [results, Tryz.f48, go_sem, d0, d1, d2, d3, d4], ?_⟩
        rw [← HGP.out, HEQ.out, HC.out, ← HDD.out]
        obtain ⟨q, hl, B16, hw4⟩ := HN.out
        have hbw := HBw.out
        have bel : Below w.heap.size w w6 := hbw.trans (B16.mono hbw.size)
        have k : ∀ (W : World) (j i : Nat) (v : Value), j < w4.heap.size → NewDv W w4.heap.size aC nC cC fC mC kC (ks'.map FkR.D) fs tC → NewDv (W.setCell ⟨j, i, none⟩ v) w4.heap.size aC nC cC fC mC kC (ks'.map FkR.D) fs tC := fun W j i v hj h => h.set_below hj
        have s : ∀ (W : World) (j i : Nat) (v : Value), w.heap.size ≤ j → Below w.heap.size w W → Below w.heap.size w (W.setCell ⟨j, i, none⟩ v) := fun W j i v hj hb => hb.setCell (p := ⟨j, i, none⟩) hj v
        exact ⟨aC, nC, cC, fC, mC, kC, tC, rfl, (k _ _ _ _ (by omega) (k _ _ _ _ (by omega) (k _ _ _ _ (by omega) (k _ _ _ _ (by omega) (k _ _ _ _ (by omega) q))))).wider (by omega), hl, s _ _ _ _ (by omega) (s _ _ _ _ (by omega) (s _ _ _ _ (by omega) (s _ _ _ _ (by omega) (s _ _ _ _ (by omega) bel))))⟩
set_option maxRecDepth 100000 in
set_option maxHeartbeats 4000000 in
theorem devPrI (a : Option Addr) (n cap : Nat) (bs : List BkR) (ops : Int) (fa : Option Addr) (m fc : Nat) (fs : List FtD) (down : Bool) (x : Int) (gb nb cb : Nat) (zs : List Int) (w : World) (ht : CR w a n bs) (hf : FR w fa m fs) (hz : zs.length = nb) (hnb : nb ≤ cb ∧ nb ≤ 1048576) (hrz : Rd w (some ⟨gb, 0, none⟩) zs) (hE : EtCell w) :
    Calls Tryz.prog 12 #[.agg #[.slice a n cap, .int .i64 ops, .slice fa m fc, .bool down], .int .i64 x, .slice (some ⟨gb, 0, none⟩) nb cb] w (DvCA w ⟨outDs (evCode (bs.map BkR.D) ops fs down (codeP true (bs.map BkR.D) x nb)) (faD ops fs) (bs.map BkR.D) (progAt (bs.map BkR.D) x.toNat zs) (badD (bs.map BkR.D) x.toNat) (fun t => progAt (bs.map BkR.D) x.toNat (zs.take t.toNat)), outOps (evCode (bs.map BkR.D) ops fs down (codeP true (bs.map BkR.D) x nb)) ops, fs, outDown (evCode (bs.map BkR.D) ops fs down (codeP true (bs.map BkR.D) x nb)) (faD ops fs) down⟩ (outCode (evCode (bs.map BkR.D) ops fs down (codeP true (bs.map BkR.D) x nb)) (faD ops fs))) := by
  have B0 : Below w.heap.size w ((((w.alloc (.cells #[.slice a n cap, .int .i64 ops, .slice fa m fc, .bool down] 29)).alloc (.cells #[.int .i64 x] 3)).alloc (.cells #[.slice (some ⟨gb, 0, none⟩) nb cb] 22)).alloc (.cells #[.slice none 0 0, .int .i64 0, .slice none 0 0, .bool false] 29)) := ((((Below.refl _ w).alloc (Nat.le_refl _) _).alloc (by simp) _).alloc (by simp; omega) _).alloc (by simp; omega) _
  have zK := ((Blk.new (w.alloc (.cells #[.slice a n cap, .int .i64 ops, .slice fa m fc, .bool down] 29)) 3 #[.int .i64 x]).alloc (.cells #[.slice (some ⟨gb, 0, none⟩) nb cb] 22)).alloc (.cells #[.slice none 0 0, .int .i64 0, .slice none 0 0, .bool false] 29)
  have zQ := (Blk.new ((w.alloc (.cells #[.slice a n cap, .int .i64 ops, .slice fa m fc, .bool down] 29)).alloc (.cells #[.int .i64 x] 3)) 22 #[.slice (some ⟨gb, 0, none⟩) nb cb]).alloc (.cells #[.slice none 0 0, .int .i64 0, .slice none 0 0, .bool false] 29)
  have z1 := Blk.new (((w.alloc (.cells #[.slice a n cap, .int .i64 ops, .slice fa m fc, .bool down] 29)).alloc (.cells #[.int .i64 x] 3)).alloc (.cells #[.slice (some ⟨gb, 0, none⟩) nb cb] 22)) 29 #[.slice none 0 0, .int .i64 0, .slice none 0 0, .bool false]
  have z0 := (((Blk.new w 29 #[.slice a n cap, .int .i64 ops, .slice fa m fc, .bool down]).alloc (.cells #[.int .i64 x] 3)).alloc (.cells #[.slice (some ⟨gb, 0, none⟩) nb cb] 22)).alloc (.cells #[.slice none 0 0, .int .i64 0, .slice none 0 0, .bool false] 29)
  simp only [World.size_alloc] at z1 zK zQ
  have hcall := behP a n cap (w.heap.size + 1) bs ops fa m fc fs down x gb nb cb (w.heap.size + 1 + 1) zs _ (ht.keep B0) (hf.keep B0) zK zQ hz hnb (hrz.keep B0) (hE.keep B0)
  generalize outDs (evCode (bs.map BkR.D) ops fs down (codeP true (bs.map BkR.D) x nb)) (faD ops fs) (bs.map BkR.D) (progAt (bs.map BkR.D) x.toNat zs) (badD (bs.map BkR.D) x.toNat) (fun t => progAt (bs.map BkR.D) x.toNat (zs.take t.toNat)) = DS at hcall ⊢
  generalize outOps (evCode (bs.map BkR.D) ops fs down (codeP true (bs.map BkR.D) x nb)) ops = OP at hcall ⊢
  generalize outDown (evCode (bs.map BkR.D) ops fs down (codeP true (bs.map BkR.D) x nb)) (faD ops fs) down = DN at hcall ⊢
  generalize outCode (evCode (bs.map BkR.D) ops fs down (codeP true (bs.map BkR.D) x nb)) (faD ops fs) = c at hcall ⊢
  generalize hGP : DvCA w ⟨DS, OP, fs, DN⟩ c = P
  have HGP : Hid _ := hGP
  have hmf : ∀ (fn : Fn) (first cap : Array Value) (w : World), (Instr.makeFunc fn first cap).run Tryz.prog w = .ok (.func fn first cap) w := fun _ _ _ _ => rfl
  obtain ⟨H, hH⟩ : ∃ H, w.heap.size = H := ⟨_, rfl⟩
  have HH : Hid (w.heap.size = H) := hH
  rw [hH] at hcall z1 z0
  clear hGP ht hf hE zK zQ hz hrz
  go_enter Tryz.func12, Tryz.ntmps12
  go_upto_region 1 with fail
  try rw [hH]
  obtain ⟨W0, hW0⟩ : ∃ W, (((w.alloc (.cells #[.slice a n cap, .int .i64 ops, .slice fa m fc, .bool down] 29)).alloc (.cells #[.int .i64 x] 3)).alloc (.cells #[.slice (some ⟨gb, 0, none⟩) nb cb] 22)).alloc (.cells #[.slice none 0 0, .int .i64 0, .slice none 0 0, .bool false] 29) = W := ⟨_, rfl⟩
  have hws : W0.heap.size = w.heap.size + 4 := by rw [← hW0]; simp
  rw [hW0] at B0 z1 z0 hcall ⊢
  clear hW0
  have HW : Hid _ := hws
  have HB0 : Hid _ := B0
  have HZ1 : Hid (Blk W0 (H + 1 + 1 + 1) 29 #[.slice none 0 0, .int .i64 0, .slice none 0 0, .bool false]) := z1
  have x0 := z0.cell 0
  have x1 := z0.cell 1
  have x2 := z0.cell 2
  have x3 := z0.cell 3
  simp at x0 x1 x2 x3
  clear B0 z1 z0 hH hws
  go_wp2_with fail
  refine hcall.mono ?_
  rintro e w1 ⟨aC, nC, cC, fC, mC, kC, tC, rfl, qC, hlC, b1⟩
  dsimp only at qC ⊢
  have zr := Blk.keep HZ1.out b1
  have r0 := zr.cell 0
  have r1 := zr.cell 1
  have r2 := zr.cell 2
  have r3 := zr.cell 3
  have f0 := zr.frozen 0
  have f1 := zr.frozen 1
  have f2 := zr.frozen 2
  have f3 := zr.frozen 3
  have zf := (((zr.set 0 (.slice aC nC cC)).set 1 (.int .i64 OP)).set 2 (.slice fC mC kC)).set 3 (.bool DN)
  have d0 := zf.cell 0
  have d1 := zf.cell 1
  have d2 := zf.cell 2
  have d3 := zf.cell 3
  simp at r0 r1 r2 r3 d0 d1 d2 d3
  have HQ : Hid _ := And.intro qC (And.intro hlC b1)
  clear qC b1 zr zf hlC x0 x1 x2 x3 hcall
  go_wp2
  refine bodyPost_ret (v := .tuple #[.agg #[.slice aC nC cC, .int .i64 OP, .slice fC mC kC, .bool DN], .int .i64 c]) (by simp [results, Tryz.f12, go_sem, d0, d1, d2, d3]) rfl ?_
  rw [← HGP.out]
  obtain ⟨q, hl, b1⟩ := HQ.out
  have hw := HW.out
  have hH := HH.out
  have bel : Below w.heap.size w w1 := HB0.out.trans (b1.mono HB0.out.size)
  have h1 : H + 1 + 1 + 1 < W0.heap.size := by omega
  have s : ∀ (W : World) (i : Nat) (v : Value), Below w.heap.size w W → Below w.heap.size w (W.setCell ⟨H + 1 + 1 + 1, i, none⟩ v) := fun W i v hb => hb.setCell (p := ⟨H + 1 + 1 + 1, i, none⟩) (by simp only; omega) v
  exact ⟨aC, nC, cC, fC, mC, kC, tC, rfl, ((((q.set_below h1).set_below h1).set_below h1).set_below h1).wider (by omega), hl, s _ _ _ (s _ _ _ (s _ _ _ (s _ _ _ bel)))⟩
end

section
open Go.RowKit
set_option maxRecDepth 100000 in
set_option maxHeartbeats 16000000 in
theorem l11Faults_any (a : Option Addr) (n cap : Nat) (fs : List FtD) (w : World) (hf : FR w a n fs) :
    Calls Tryz.prog 71 #[.slice a n cap] w fun e w' => e = .returned (.bool (faultsB fs)) ∧ Below w.heap.size w w' := by
  have hlast : faultsB fs = ((List.range n).all (ftAt fs) && decide (n ≤ 20)) := by unfold faultsB; rw [hf.len]
  have hs := hf.tot
  have HR : Hid (FR w a n fs) := hf
  have HL : Hid _ := hlast
  clear hf hlast
  go_enter Tryz.func71, Tryz.ntmps71
  go_wp2
  go_loopw [3] (fun i wr => ∃ k : Nat, k ≤ n ∧ i = .int .i64 k ∧ Hid (∀ j, j < k → ftAt fs j = true) ∧ Hid (Below w.heap.size w wr)) (fun i _ => n - (intOf i).toNat)
  case atStart => exact ⟨0, Nat.zero_le _, rfl, fun j hj => by omega, Below.refl _ _⟩
  case round =>
    obtain ⟨k, hk, rfl, hall, hB⟩ := hrel
    by_cases hkn : k < n
    · have hki : (k : Int) < (n : Int) := by omega
      have HBD : Hid (Below w.heap.size w wr.drew) := hB.out.drew
      obtain ⟨b, off, r, rfl, hlt, hrk, x0, x1, x2⟩ := (HR.out.keep HBD.out).some hkn
      have hat := ftAt_at hrk
      have hno : ftAt fs k = false → faultsB fs = false := fun h => by rw [HL.out, all_range_false hkn h]; rfl
      have hyes : ftAt fs k = true → ∀ j, j < k + 1 → ftAt fs j = true := by
        intro h j hj
        rcases (show j < k ∨ j = k by omega) with hj | rfl
        · exact hall.out j hj
        · exact h
      obtain ⟨t, u, v⟩ := r
      dsimp only at x0 x1 x2
      have HNO : Hid _ := hno
      have HYES : Hid _ := hyes
      have HAT : Hid _ := hat
      clear hno hyes hat hall hrk
      have hN : ∀ W : World, Calls Tryz.prog 70 #[.int .i64 t, .int .i64 0, .int .i64 100000] W fun e w' => e = .returned (.bool (decide (0 ≤ t) && decide (t ≤ 100000))) ∧ w' = W := fun W => l1In_any t 0 100000 W
      have hL : ∀ W : World, Calls Tryz.prog 70 #[.int .i64 u, .int .i64 1, .int .i64 2] W fun e w' => e = .returned (.bool (decide (1 ≤ u) && decide (u ≤ 2))) ∧ w' = W := fun W => l1In_any u 1 2 W
      have hM : ∀ W : World, Calls Tryz.prog 70 #[.int .i64 v, .int .i64 0, .int .i64 400] W fun e w' => e = .returned (.bool (decide (0 ≤ v) && decide (v ≤ 400))) ∧ w' = W := fun W => l1In_any v 0 400 W
      cases h1 : (decide (0 ≤ t) && decide (t ≤ 100000)) with
      | false =>
        have hfin : Hid (faultsB fs = false) := HNO.out (by rw [HAT.out]; unfold ftOk; dsimp only; rw [h1]; rfl)
        rw [h1] at hN
        clear HNO HYES HAT h1 hL hM
        go_upto_region 4 with fail
        refine wp_region_noPanic ?_
        refine wp_region_held_drew (S := fun W : World => W.cell? ⟨b, off + k * 3, none⟩ = some (.int .i64 t) ∧ W.cell? ⟨b, off + k * 3 + 1, none⟩ = some (.int .i64 u) ∧ W.cell? ⟨b, off + k * 3 + 2, none⟩ = some (.int .i64 v)) (by kernel_rfl) (by go_keep) (fun hS => ?_)
        refine wpAnyH_take (i := 0) (v := ?gv1) rfl (by kernel_rfl) (by kernel_rfl) (by kernel_rfl) (fun _ _ _ h => h) (Or.inl ⟨by kernel_rfl, ?gy1⟩) (by assumption) ?gr1
        case gy1 => (intro w' hSw; (try dsimp only at hSw); go_simp; (try with_reducible rfl))
        try simp only [Act.put, List.setIfInBounds_toArray, List.set_cons_zero, List.set_cons_succ, List.getElem_toArray, List.getElem_cons_zero]
        refine wpAnyH_take (i := 1) (v := ?gv2) rfl (by kernel_rfl) (by kernel_rfl) (by kernel_rfl) (fun _ _ _ h => h) (Or.inl ⟨by kernel_rfl, ?gy2⟩) (by assumption) ?gr2
        case gy2 => (intro w' hSw; (try dsimp only at hSw); go_simp; (try with_reducible rfl))
        try simp only [Act.put, List.setIfInBounds_toArray, List.set_cons_zero, List.set_cons_succ, List.getElem_toArray, List.getElem_cons_succ, List.getElem_cons_zero]
        refine wpAnyH_take (i := 2) (v := ?gv3) rfl (by kernel_rfl) (by kernel_rfl) (by kernel_rfl) (fun _ _ _ h => h) (Or.inl ⟨by kernel_rfl, ?gy3⟩) (by assumption) ?gr3
        case gy3 => (intro w' hSw; (try dsimp only at hSw); go_simp; (try with_reducible rfl))
        try simp only [Act.put, List.setIfInBounds_toArray, List.set_cons_zero, List.set_cons_succ, List.getElem_toArray, List.getElem_cons_succ, List.getElem_cons_zero]
        refine wpAnyH_take (i := 3) (v := ?gv4) rfl (by kernel_rfl) (by kernel_rfl) (by kernel_rfl) (fun _ _ _ h => h) (Or.inl ⟨by kernel_rfl, ?gy4⟩) (by assumption) ?gr4
        case gy4 => (intro w' hSw; (try dsimp only at hSw); go_simp; (try with_reducible rfl))
        try simp only [Act.put, List.setIfInBounds_toArray, List.set_cons_zero, List.set_cons_succ, List.getElem_toArray, List.getElem_cons_succ, List.getElem_cons_zero]
        refine wpAnyH_take (i := 4) (v := ?gv5) rfl (by kernel_rfl) (by kernel_rfl) (by kernel_rfl) (fun _ _ _ h => h) (Or.inl ⟨by kernel_rfl, ?gy5⟩) (by assumption) ?gr5
        case gy5 => (intro w' hSw; (try dsimp only at hSw); go_simp; (try with_reducible rfl))
        try simp only [Act.put, List.setIfInBounds_toArray, List.set_cons_zero, List.set_cons_succ, List.getElem_toArray, List.getElem_cons_succ, List.getElem_cons_zero]
        refine wpAnyH_ready (rs := [5]) (by kernel_rfl) (by simp) ?_
        refine AllReadyH.cons rfl (fun K hK => ?_) AllReadyH.nil
        go_simp
        (with_reducible refine (hN _).mono ?_)
        rintro e u5 ⟨rfl, hu5⟩
        subst hu5
        clear hS
        dsimp only
        refine Shut.out hK _ _ (⟨x0, x1, x2⟩) (fun hS => ?_)
        try simp only [Act.put, List.setIfInBounds_toArray, List.set_cons_zero, List.set_cons_succ, List.getElem_toArray, List.getElem_cons_succ, List.getElem_cons_zero]
        refine wpAnyH_take (i := 6) (v := ?gv6) rfl (by kernel_rfl) (by kernel_rfl) (by kernel_rfl) (fun _ _ _ h => h) (Or.inl ⟨by kernel_rfl, ?gy6⟩) (by assumption) ?gr6
        case gy6 => (intro w' hSw; (try dsimp only at hSw); go_simp; (try with_reducible rfl))
        try simp only [Act.put, List.setIfInBounds_toArray, List.set_cons_zero, List.set_cons_succ, List.getElem_toArray, List.getElem_cons_succ, List.getElem_cons_zero]
        refine wpAnyH_take (i := 7) (v := ?gv7) rfl (by kernel_rfl) (by kernel_rfl) (by kernel_rfl) (fun _ _ _ h => h) (Or.inl ⟨by kernel_rfl, ?gy7⟩) (by assumption) ?gr7
        case gy7 => (intro w' hSw; (try dsimp only at hSw); go_simp; (try with_reducible rfl))
        try simp only [Act.put, List.setIfInBounds_toArray, List.set_cons_zero, List.set_cons_succ, List.getElem_toArray, List.getElem_cons_succ, List.getElem_cons_zero]
        refine wpAnyH_take (i := 8) (v := undef) rfl (by kernel_rfl) (by kernel_rfl) (by kernel_rfl) (fun _ _ _ h => h) (Or.inr ⟨by kernel_rfl, rfl⟩) (by assumption) ?_
        try simp only [Act.put, List.setIfInBounds_toArray, List.set_cons_zero, List.set_cons_succ, List.getElem_toArray, List.getElem_cons_succ, List.getElem_cons_zero]
        refine wpAnyH_take (i := 9) (v := undef) rfl (by kernel_rfl) (by kernel_rfl) (by kernel_rfl) (fun _ _ _ h => h) (Or.inr ⟨by kernel_rfl, rfl⟩) (by assumption) ?_
        try simp only [Act.put, List.setIfInBounds_toArray, List.set_cons_zero, List.set_cons_succ, List.getElem_toArray, List.getElem_cons_succ, List.getElem_cons_zero]
        refine wpAnyH_take (i := 10) (v := undef) rfl (by kernel_rfl) (by kernel_rfl) (by kernel_rfl) (fun _ _ _ h => h) (Or.inr ⟨by kernel_rfl, rfl⟩) (by assumption) ?_
        try simp only [Act.put, List.setIfInBounds_toArray, List.set_cons_zero, List.set_cons_succ, List.getElem_toArray, List.getElem_cons_succ, List.getElem_cons_zero]
        refine wpAnyH_take (i := 11) (v := undef) rfl (by kernel_rfl) (by kernel_rfl) (by kernel_rfl) (fun _ _ _ h => h) (Or.inr ⟨by kernel_rfl, rfl⟩) (by assumption) ?_
        try simp only [Act.put, List.setIfInBounds_toArray, List.set_cons_zero, List.set_cons_succ, List.getElem_toArray, List.getElem_cons_succ, List.getElem_cons_zero]
        refine wpAnyH_take (i := 12) (v := undef) rfl (by kernel_rfl) (by kernel_rfl) (by kernel_rfl) (fun _ _ _ h => h) (Or.inr ⟨by kernel_rfl, rfl⟩) (by assumption) ?_
        try simp only [Act.put, List.setIfInBounds_toArray, List.set_cons_zero, List.set_cons_succ, List.getElem_toArray, List.getElem_cons_succ, List.getElem_cons_zero]
        refine wpAnyH_take (i := 13) (v := undef) rfl (by kernel_rfl) (by kernel_rfl) (by kernel_rfl) (fun _ _ _ h => h) (Or.inr ⟨by kernel_rfl, rfl⟩) (by assumption) ?_
        try simp only [Act.put, List.setIfInBounds_toArray, List.set_cons_zero, List.set_cons_succ, List.getElem_toArray, List.getElem_cons_succ, List.getElem_cons_zero]
        refine wpAnyH_take (i := 14) (v := undef) rfl (by kernel_rfl) (by kernel_rfl) (by kernel_rfl) (fun _ _ _ h => h) (Or.inr ⟨by kernel_rfl, rfl⟩) (by assumption) ?_
        try simp only [Act.put, List.setIfInBounds_toArray, List.set_cons_zero, List.set_cons_succ, List.getElem_toArray, List.getElem_cons_succ, List.getElem_cons_zero]
        refine wpAnyH_take (i := 15) (v := ?gv8) rfl (by kernel_rfl) (by kernel_rfl) (by kernel_rfl) (fun _ _ _ h => h) (Or.inl ⟨by kernel_rfl, ?gy8⟩) (by assumption) ?gr8
        case gy8 => (intro w' hSw; (try dsimp only at hSw); go_simp; (try with_reducible rfl))
        try simp only [Act.put, List.setIfInBounds_toArray, List.set_cons_zero, List.set_cons_succ, List.getElem_toArray, List.getElem_cons_succ, List.getElem_cons_zero]
        refine wpAnyH_take (i := 16) (v := ?gv9) rfl (by kernel_rfl) (by kernel_rfl) (by kernel_rfl) (fun _ _ _ h => h) (Or.inl ⟨by kernel_rfl, ?gy9⟩) (by assumption) ?gr9
        case gy9 => (intro w' hSw; (try dsimp only at hSw); go_simp; (try with_reducible rfl))
        try simp only [Act.put, List.setIfInBounds_toArray, List.set_cons_zero, List.set_cons_succ, List.getElem_toArray, List.getElem_cons_succ, List.getElem_cons_zero]
        refine wpAnyH_take (i := 17) (v := undef) rfl (by kernel_rfl) (by kernel_rfl) (by kernel_rfl) (fun _ _ _ h => h) (Or.inr ⟨by kernel_rfl, rfl⟩) (by assumption) ?_
        try simp only [Act.put, List.setIfInBounds_toArray, List.set_cons_zero, List.set_cons_succ, List.getElem_toArray, List.getElem_cons_succ, List.getElem_cons_zero]
        refine wpAnyH_take (i := 18) (v := undef) rfl (by kernel_rfl) (by kernel_rfl) (by kernel_rfl) (fun _ _ _ h => h) (Or.inr ⟨by kernel_rfl, rfl⟩) (by assumption) ?_
        try simp only [Act.put, List.setIfInBounds_toArray, List.set_cons_zero, List.set_cons_succ, List.getElem_toArray, List.getElem_cons_succ, List.getElem_cons_zero]
        refine wpAnyH_take (i := 19) (v := undef) rfl (by kernel_rfl) (by kernel_rfl) (by kernel_rfl) (fun _ _ _ h => h) (Or.inr ⟨by kernel_rfl, rfl⟩) (by assumption) ?_
        try simp only [Act.put, List.setIfInBounds_toArray, List.set_cons_zero, List.set_cons_succ, List.getElem_toArray, List.getElem_cons_succ, List.getElem_cons_zero]
        refine wpAnyH_take (i := 20) (v := undef) rfl (by kernel_rfl) (by kernel_rfl) (by kernel_rfl) (fun _ _ _ h => h) (Or.inr ⟨by kernel_rfl, rfl⟩) (by assumption) ?_
        try simp only [Act.put, List.setIfInBounds_toArray, List.set_cons_zero, List.set_cons_succ, List.getElem_toArray, List.getElem_cons_succ, List.getElem_cons_zero]
        refine wpAnyH_take (i := 21) (v := undef) rfl (by kernel_rfl) (by kernel_rfl) (by kernel_rfl) (fun _ _ _ h => h) (Or.inr ⟨by kernel_rfl, rfl⟩) (by assumption) ?_
        try simp only [Act.put, List.setIfInBounds_toArray, List.set_cons_zero, List.set_cons_succ, List.getElem_toArray, List.getElem_cons_succ, List.getElem_cons_zero]
        refine wpAnyH_take (i := 22) (v := undef) rfl (by kernel_rfl) (by kernel_rfl) (by kernel_rfl) (fun _ _ _ h => h) (Or.inr ⟨by kernel_rfl, rfl⟩) (by assumption) ?_
        try simp only [Act.put, List.setIfInBounds_toArray, List.set_cons_zero, List.set_cons_succ, List.getElem_toArray, List.getElem_cons_succ, List.getElem_cons_zero]
        refine wpAnyH_take (i := 23) (v := undef) rfl (by kernel_rfl) (by kernel_rfl) (by kernel_rfl) (fun _ _ _ h => h) (Or.inr ⟨by kernel_rfl, rfl⟩) (by assumption) ?_
        try simp only [Act.put, List.setIfInBounds_toArray, List.set_cons_zero, List.set_cons_succ, List.getElem_toArray, List.getElem_cons_succ, List.getElem_cons_zero]
        refine wpAnyH_take (i := 24) (v := ?gv10) rfl (by kernel_rfl) (by kernel_rfl) (by kernel_rfl) (fun _ _ _ h => h) (Or.inl ⟨by kernel_rfl, ?gy10⟩) (by assumption) ?gr10
        case gy10 => (intro w' hSw; (try dsimp only at hSw); go_simp; (try with_reducible rfl))
        try simp only [Act.put, List.setIfInBounds_toArray, List.set_cons_zero, List.set_cons_succ, List.getElem_toArray, List.getElem_cons_succ, List.getElem_cons_zero]
        refine wpAnyH_take (i := 25) (v := ?gv11) rfl (by kernel_rfl) (by kernel_rfl) (by kernel_rfl) (fun _ _ _ h => h) (Or.inl ⟨by kernel_rfl, ?gy11⟩) (by assumption) ?gr11
        case gy11 => (intro w' hSw; (try dsimp only at hSw); go_simp; (try with_reducible rfl))
        try simp only [Act.put, List.setIfInBounds_toArray, List.set_cons_zero, List.set_cons_succ, List.getElem_toArray, List.getElem_cons_succ, List.getElem_cons_zero]
        refine wpAnyH_take (i := 26) (v := undef) rfl (by kernel_rfl) (by kernel_rfl) (by kernel_rfl) (fun _ _ _ h => h) (Or.inr ⟨by kernel_rfl, rfl⟩) (by assumption) ?_
        try simp only [Act.put, List.setIfInBounds_toArray, List.set_cons_zero, List.set_cons_succ, List.getElem_toArray, List.getElem_cons_succ, List.getElem_cons_zero]
        refine wpAnyH_take (i := 27) (v := undef) rfl (by kernel_rfl) (by kernel_rfl) (by kernel_rfl) (fun _ _ _ h => h) (Or.inr ⟨by kernel_rfl, rfl⟩) (by assumption) ?_
        try simp only [Act.put, List.setIfInBounds_toArray, List.set_cons_zero, List.set_cons_succ, List.getElem_toArray, List.getElem_cons_succ, List.getElem_cons_zero]
        refine wpAnyH_take (i := 28) (v := undef) rfl (by kernel_rfl) (by kernel_rfl) (by kernel_rfl) (fun _ _ _ h => h) (Or.inr ⟨by kernel_rfl, rfl⟩) (by assumption) ?_
        try simp only [Act.put, List.setIfInBounds_toArray, List.set_cons_zero, List.set_cons_succ, List.getElem_toArray, List.getElem_cons_succ, List.getElem_cons_zero]
        refine wpAnyH_take (i := 29) (v := undef) rfl (by kernel_rfl) (by kernel_rfl) (by kernel_rfl) (fun _ _ _ h => h) (Or.inr ⟨by kernel_rfl, rfl⟩) (by assumption) ?_
        try simp only [Act.put, List.setIfInBounds_toArray, List.set_cons_zero, List.set_cons_succ, List.getElem_toArray, List.getElem_cons_succ, List.getElem_cons_zero]
        refine wpAnyH_take (i := 30) (v := undef) rfl (by kernel_rfl) (by kernel_rfl) (by kernel_rfl) (fun _ _ _ h => h) (Or.inr ⟨by kernel_rfl, rfl⟩) (by assumption) ?_
        try simp only [Act.put, List.setIfInBounds_toArray, List.set_cons_zero, List.set_cons_succ, List.getElem_toArray, List.getElem_cons_succ, List.getElem_cons_zero]
        refine wpAnyH_take (i := 31) (v := undef) rfl (by kernel_rfl) (by kernel_rfl) (by kernel_rfl) (fun _ _ _ h => h) (Or.inr ⟨by kernel_rfl, rfl⟩) (by assumption) ?_
        try simp only [Act.put, List.setIfInBounds_toArray, List.set_cons_zero, List.set_cons_succ, List.getElem_toArray, List.getElem_cons_succ, List.getElem_cons_zero]
        refine wpAnyH_take (i := 32) (v := undef) rfl (by kernel_rfl) (by kernel_rfl) (by kernel_rfl) (fun _ _ _ h => h) (Or.inr ⟨by kernel_rfl, rfl⟩) (by assumption) ?_
        try simp only [Act.put, List.setIfInBounds_toArray, List.set_cons_zero, List.set_cons_succ, List.getElem_toArray, List.getElem_cons_succ, List.getElem_cons_zero]
        refine wpAnyH_take (i := 33) (v := undef) rfl (by kernel_rfl) (by kernel_rfl) (by kernel_rfl) (fun _ _ _ h => h) (Or.inr ⟨by kernel_rfl, rfl⟩) (by assumption) ?_
        try simp only [Act.put, List.setIfInBounds_toArray, List.set_cons_zero, List.set_cons_succ, List.getElem_toArray, List.getElem_cons_succ, List.getElem_cons_zero]
        refine wpAnyH_take (i := 34) (v := undef) rfl (by kernel_rfl) (by kernel_rfl) (by kernel_rfl) (fun _ _ _ h => h) (Or.inr ⟨by kernel_rfl, rfl⟩) (by assumption) ?_
        try simp only [Act.put, List.setIfInBounds_toArray, List.set_cons_zero, List.set_cons_succ, List.getElem_toArray, List.getElem_cons_succ, List.getElem_cons_zero]
        refine wpAnyH_take (i := 35) (v := undef) rfl (by kernel_rfl) (by kernel_rfl) (by kernel_rfl) (fun _ _ _ h => h) (Or.inr ⟨by kernel_rfl, rfl⟩) (by assumption) ?_
        try simp only [Act.put, List.setIfInBounds_toArray, List.set_cons_zero, List.set_cons_succ, List.getElem_toArray, List.getElem_cons_succ, List.getElem_cons_zero]
        refine wpAnyH_take (i := 36) (v := undef) rfl (by kernel_rfl) (by kernel_rfl) (by kernel_rfl) (fun _ _ _ h => h) (Or.inr ⟨by kernel_rfl, rfl⟩) (by assumption) ?_
        try simp only [Act.put, List.setIfInBounds_toArray, List.set_cons_zero, List.set_cons_succ, List.getElem_toArray, List.getElem_cons_succ, List.getElem_cons_zero]
        refine wpAnyH_take (i := 37) (v := undef) rfl (by kernel_rfl) (by kernel_rfl) (by kernel_rfl) (fun _ _ _ h => h) (Or.inr ⟨by kernel_rfl, rfl⟩) (by assumption) ?_
        try simp only [Act.put, List.setIfInBounds_toArray, List.set_cons_zero, List.set_cons_succ, List.getElem_toArray, List.getElem_cons_succ, List.getElem_cons_zero]
        refine wpAnyH_take (i := 38) (v := undef) rfl (by kernel_rfl) (by kernel_rfl) (by kernel_rfl) (fun _ _ _ h => h) (Or.inr ⟨by kernel_rfl, rfl⟩) (by assumption) ?_
        try simp only [Act.put, List.setIfInBounds_toArray, List.set_cons_zero, List.set_cons_succ, List.getElem_toArray, List.getElem_cons_succ, List.getElem_cons_zero]
        refine wpAnyH_take (i := 39) (v := undef) rfl (by kernel_rfl) (by kernel_rfl) (by kernel_rfl) (fun _ _ _ h => h) (Or.inr ⟨by kernel_rfl, rfl⟩) (by assumption) ?_
        try simp only [Act.put, List.setIfInBounds_toArray, List.set_cons_zero, List.set_cons_succ, List.getElem_toArray, List.getElem_cons_succ, List.getElem_cons_zero]
        refine wpAnyH_take (i := 40) (v := undef) rfl (by kernel_rfl) (by kernel_rfl) (by kernel_rfl) (fun _ _ _ h => h) (Or.inr ⟨by kernel_rfl, rfl⟩) (by assumption) ?_
        try simp only [Act.put, List.setIfInBounds_toArray, List.set_cons_zero, List.set_cons_succ, List.getElem_toArray, List.getElem_cons_succ, List.getElem_cons_zero]
        refine wpAnyH_take (i := 41) (v := undef) rfl (by kernel_rfl) (by kernel_rfl) (by kernel_rfl) (fun _ _ _ h => h) (Or.inr ⟨by kernel_rfl, rfl⟩) (by assumption) ?_
        try simp only [Act.put, List.setIfInBounds_toArray, List.set_cons_zero, List.set_cons_succ, List.getElem_toArray, List.getElem_cons_succ, List.getElem_cons_zero]
        refine wpAnyH_take (i := 42) (v := ?gv12) rfl (by kernel_rfl) (by kernel_rfl) (by kernel_rfl) (fun _ _ _ h => h) (Or.inl ⟨by kernel_rfl, ?gy12⟩) (by assumption) ?gr12
        case gy12 => (intro w' hSw; (try dsimp only at hSw); go_simp; (try with_reducible rfl))
        try simp only [Act.put, List.setIfInBounds_toArray, List.set_cons_zero, List.set_cons_succ, List.getElem_toArray, List.getElem_cons_succ, List.getElem_cons_zero]
        refine wpAnyH_done (by kernel_rfl) (NoPanic.normal ?_) _
        go_wp2
        go_ret
        exact ⟨ret_bool hfin.out.symm, HBD.out⟩
      | true =>
        cases h2 : (decide (1 ≤ u) && decide (u ≤ 2)) with
        | false =>
          have hfin : Hid (faultsB fs = false) := HNO.out (by rw [HAT.out]; unfold ftOk; dsimp only; rw [h1, h2]; rfl)
          rw [h1] at hN
          rw [h2] at hL
          clear HNO HYES HAT h1 h2 hM
          go_upto_region 4 with fail
          refine wp_region_noPanic ?_
          refine wp_region_held_drew (S := fun W : World => W.cell? ⟨b, off + k * 3, none⟩ = some (.int .i64 t) ∧ W.cell? ⟨b, off + k * 3 + 1, none⟩ = some (.int .i64 u) ∧ W.cell? ⟨b, off + k * 3 + 2, none⟩ = some (.int .i64 v)) (by kernel_rfl) (by go_keep) (fun hS => ?_)
          refine wpAnyH_take (i := 0) (v := ?gv13) rfl (by kernel_rfl) (by kernel_rfl) (by kernel_rfl) (fun _ _ _ h => h) (Or.inl ⟨by kernel_rfl, ?gy13⟩) (by assumption) ?gr13
          case gy13 => (intro w' hSw; (try dsimp only at hSw); go_simp; (try with_reducible rfl))
          try simp only [Act.put, List.setIfInBounds_toArray, List.set_cons_zero, List.set_cons_succ, List.getElem_toArray, List.getElem_cons_zero]
          refine wpAnyH_take (i := 1) (v := ?gv14) rfl (by kernel_rfl) (by kernel_rfl) (by kernel_rfl) (fun _ _ _ h => h) (Or.inl ⟨by kernel_rfl, ?gy14⟩) (by assumption) ?gr14
          case gy14 => (intro w' hSw; (try dsimp only at hSw); go_simp; (try with_reducible rfl))
          try simp only [Act.put, List.setIfInBounds_toArray, List.set_cons_zero, List.set_cons_succ, List.getElem_toArray, List.getElem_cons_succ, List.getElem_cons_zero]
          refine wpAnyH_take (i := 2) (v := ?gv15) rfl (by kernel_rfl) (by kernel_rfl) (by kernel_rfl) (fun _ _ _ h => h) (Or.inl ⟨by kernel_rfl, ?gy15⟩) (by assumption) ?gr15
          case gy15 => (intro w' hSw; (try dsimp only at hSw); go_simp; (try with_reducible rfl))
          try simp only [Act.put, List.setIfInBounds_toArray, List.set_cons_zero, List.set_cons_succ, List.getElem_toArray, List.getElem_cons_succ, List.getElem_cons_zero]
          refine wpAnyH_take (i := 3) (v := ?gv16) rfl (by kernel_rfl) (by kernel_rfl) (by kernel_rfl) (fun _ _ _ h => h) (Or.inl ⟨by kernel_rfl, ?gy16⟩) (by assumption) ?gr16
          case gy16 => (intro w' hSw; (try dsimp only at hSw); go_simp; (try with_reducible rfl))
          try simp only [Act.put, List.setIfInBounds_toArray, List.set_cons_zero, List.set_cons_succ, List.getElem_toArray, List.getElem_cons_succ, List.getElem_cons_zero]
          refine wpAnyH_take (i := 4) (v := ?gv17) rfl (by kernel_rfl) (by kernel_rfl) (by kernel_rfl) (fun _ _ _ h => h) (Or.inl ⟨by kernel_rfl, ?gy17⟩) (by assumption) ?gr17
          case gy17 => (intro w' hSw; (try dsimp only at hSw); go_simp; (try with_reducible rfl))
          try simp only [Act.put, List.setIfInBounds_toArray, List.set_cons_zero, List.set_cons_succ, List.getElem_toArray, List.getElem_cons_succ, List.getElem_cons_zero]
          refine wpAnyH_ready (rs := [5]) (by kernel_rfl) (by simp) ?_
          refine AllReadyH.cons rfl (fun K hK => ?_) AllReadyH.nil
          go_simp
          (with_reducible refine (hN _).mono ?_)
          rintro e u5 ⟨rfl, hu5⟩
          subst hu5
          clear hS
          dsimp only
          refine Shut.out hK _ _ (⟨x0, x1, x2⟩) (fun hS => ?_)
          try simp only [Act.put, List.setIfInBounds_toArray, List.set_cons_zero, List.set_cons_succ, List.getElem_toArray, List.getElem_cons_succ, List.getElem_cons_zero]
          refine wpAnyH_take (i := 6) (v := ?gv18) rfl (by kernel_rfl) (by kernel_rfl) (by kernel_rfl) (fun _ _ _ h => h) (Or.inl ⟨by kernel_rfl, ?gy18⟩) (by assumption) ?gr18
          case gy18 => (intro w' hSw; (try dsimp only at hSw); go_simp; (try with_reducible rfl))
          try simp only [Act.put, List.setIfInBounds_toArray, List.set_cons_zero, List.set_cons_succ, List.getElem_toArray, List.getElem_cons_succ, List.getElem_cons_zero]
          refine wpAnyH_take (i := 7) (v := ?gv19) rfl (by kernel_rfl) (by kernel_rfl) (by kernel_rfl) (fun _ _ _ h => h) (Or.inl ⟨by kernel_rfl, ?gy19⟩) (by assumption) ?gr19
          case gy19 => (intro w' hSw; (try dsimp only at hSw); go_simp; (try with_reducible rfl))
          try simp only [Act.put, List.setIfInBounds_toArray, List.set_cons_zero, List.set_cons_succ, List.getElem_toArray, List.getElem_cons_succ, List.getElem_cons_zero]
          refine wpAnyH_take (i := 8) (v := ?gv20) rfl (by kernel_rfl) (by kernel_rfl) (by kernel_rfl) (fun _ _ _ h => h) (Or.inl ⟨by kernel_rfl, ?gy20⟩) (by assumption) ?gr20
          case gy20 => (intro w' hSw; (try dsimp only at hSw); go_simp; (try with_reducible rfl))
          try simp only [Act.put, List.setIfInBounds_toArray, List.set_cons_zero, List.set_cons_succ, List.getElem_toArray, List.getElem_cons_succ, List.getElem_cons_zero]
          refine wpAnyH_take (i := 9) (v := ?gv21) rfl (by kernel_rfl) (by kernel_rfl) (by kernel_rfl) (fun _ _ _ h => h) (Or.inl ⟨by kernel_rfl, ?gy21⟩) (by assumption) ?gr21
          case gy21 => (intro w' hSw; (try dsimp only at hSw); go_simp; (try with_reducible rfl))
          try simp only [Act.put, List.setIfInBounds_toArray, List.set_cons_zero, List.set_cons_succ, List.getElem_toArray, List.getElem_cons_succ, List.getElem_cons_zero]
          refine wpAnyH_take (i := 10) (v := ?gv22) rfl (by kernel_rfl) (by kernel_rfl) (by kernel_rfl) (fun _ _ _ h => h) (Or.inl ⟨by kernel_rfl, ?gy22⟩) (by assumption) ?gr22
          case gy22 => (intro w' hSw; (try dsimp only at hSw); go_simp; (try with_reducible rfl))
          try simp only [Act.put, List.setIfInBounds_toArray, List.set_cons_zero, List.set_cons_succ, List.getElem_toArray, List.getElem_cons_succ, List.getElem_cons_zero]
          refine wpAnyH_take (i := 11) (v := ?gv23) rfl (by kernel_rfl) (by kernel_rfl) (by kernel_rfl) (fun _ _ _ h => h) (Or.inl ⟨by kernel_rfl, ?gy23⟩) (by assumption) ?gr23
          case gy23 => (intro w' hSw; (try dsimp only at hSw); go_simp; (try with_reducible rfl))
          try simp only [Act.put, List.setIfInBounds_toArray, List.set_cons_zero, List.set_cons_succ, List.getElem_toArray, List.getElem_cons_succ, List.getElem_cons_zero]
          refine wpAnyH_take (i := 12) (v := ?gv24) rfl (by kernel_rfl) (by kernel_rfl) (by kernel_rfl) (fun _ _ _ h => h) (Or.inl ⟨by kernel_rfl, ?gy24⟩) (by assumption) ?gr24
          case gy24 => (intro w' hSw; (try dsimp only at hSw); go_simp; (try with_reducible rfl))
          try simp only [Act.put, List.setIfInBounds_toArray, List.set_cons_zero, List.set_cons_succ, List.getElem_toArray, List.getElem_cons_succ, List.getElem_cons_zero]
          refine wpAnyH_ready (rs := [13]) (by kernel_rfl) (by simp) ?_
          refine AllReadyH.cons rfl (fun K hK => ?_) AllReadyH.nil
          go_simp
          (with_reducible refine (hL _).mono ?_)
          rintro e u13 ⟨rfl, hu13⟩
          subst hu13
          clear hS
          dsimp only
          refine Shut.out hK _ _ (⟨x0, x1, x2⟩) (fun hS => ?_)
          try simp only [Act.put, List.setIfInBounds_toArray, List.set_cons_zero, List.set_cons_succ, List.getElem_toArray, List.getElem_cons_succ, List.getElem_cons_zero]
          refine wpAnyH_take (i := 14) (v := ?gv25) rfl (by kernel_rfl) (by kernel_rfl) (by kernel_rfl) (fun _ _ _ h => h) (Or.inl ⟨by kernel_rfl, ?gy25⟩) (by assumption) ?gr25
          case gy25 => (intro w' hSw; (try dsimp only at hSw); go_simp; (try with_reducible rfl))
          try simp only [Act.put, List.setIfInBounds_toArray, List.set_cons_zero, List.set_cons_succ, List.getElem_toArray, List.getElem_cons_succ, List.getElem_cons_zero]
          refine wpAnyH_take (i := 15) (v := ?gv26) rfl (by kernel_rfl) (by kernel_rfl) (by kernel_rfl) (fun _ _ _ h => h) (Or.inl ⟨by kernel_rfl, ?gy26⟩) (by assumption) ?gr26
          case gy26 => (intro w' hSw; (try dsimp only at hSw); go_simp; (try with_reducible rfl))
          try simp only [Act.put, List.setIfInBounds_toArray, List.set_cons_zero, List.set_cons_succ, List.getElem_toArray, List.getElem_cons_succ, List.getElem_cons_zero]
          refine wpAnyH_take (i := 16) (v := ?gv27) rfl (by kernel_rfl) (by kernel_rfl) (by kernel_rfl) (fun _ _ _ h => h) (Or.inl ⟨by kernel_rfl, ?gy27⟩) (by assumption) ?gr27
          case gy27 => (intro w' hSw; (try dsimp only at hSw); go_simp; (try with_reducible rfl))
          try simp only [Act.put, List.setIfInBounds_toArray, List.set_cons_zero, List.set_cons_succ, List.getElem_toArray, List.getElem_cons_succ, List.getElem_cons_zero]
          refine wpAnyH_take (i := 17) (v := undef) rfl (by kernel_rfl) (by kernel_rfl) (by kernel_rfl) (fun _ _ _ h => h) (Or.inr ⟨by kernel_rfl, rfl⟩) (by assumption) ?_
          try simp only [Act.put, List.setIfInBounds_toArray, List.set_cons_zero, List.set_cons_succ, List.getElem_toArray, List.getElem_cons_succ, List.getElem_cons_zero]
          refine wpAnyH_take (i := 18) (v := undef) rfl (by kernel_rfl) (by kernel_rfl) (by kernel_rfl) (fun _ _ _ h => h) (Or.inr ⟨by kernel_rfl, rfl⟩) (by assumption) ?_
          try simp only [Act.put, List.setIfInBounds_toArray, List.set_cons_zero, List.set_cons_succ, List.getElem_toArray, List.getElem_cons_succ, List.getElem_cons_zero]
          refine wpAnyH_take (i := 19) (v := undef) rfl (by kernel_rfl) (by kernel_rfl) (by kernel_rfl) (fun _ _ _ h => h) (Or.inr ⟨by kernel_rfl, rfl⟩) (by assumption) ?_
          try simp only [Act.put, List.setIfInBounds_toArray, List.set_cons_zero, List.set_cons_succ, List.getElem_toArray, List.getElem_cons_succ, List.getElem_cons_zero]
          refine wpAnyH_take (i := 20) (v := undef) rfl (by kernel_rfl) (by kernel_rfl) (by kernel_rfl) (fun _ _ _ h => h) (Or.inr ⟨by kernel_rfl, rfl⟩) (by assumption) ?_
          try simp only [Act.put, List.setIfInBounds_toArray, List.set_cons_zero, List.set_cons_succ, List.getElem_toArray, List.getElem_cons_succ, List.getElem_cons_zero]
          refine wpAnyH_take (i := 21) (v := undef) rfl (by kernel_rfl) (by kernel_rfl) (by kernel_rfl) (fun _ _ _ h => h) (Or.inr ⟨by kernel_rfl, rfl⟩) (by assumption) ?_
          try simp only [Act.put, List.setIfInBounds_toArray, List.set_cons_zero, List.set_cons_succ, List.getElem_toArray, List.getElem_cons_succ, List.getElem_cons_zero]
          refine wpAnyH_take (i := 22) (v := undef) rfl (by kernel_rfl) (by kernel_rfl) (by kernel_rfl) (fun _ _ _ h => h) (Or.inr ⟨by kernel_rfl, rfl⟩) (by assumption) ?_
          try simp only [Act.put, List.setIfInBounds_toArray, List.set_cons_zero, List.set_cons_succ, List.getElem_toArray, List.getElem_cons_succ, List.getElem_cons_zero]
          refine wpAnyH_take (i := 23) (v := undef) rfl (by kernel_rfl) (by kernel_rfl) (by kernel_rfl) (fun _ _ _ h => h) (Or.inr ⟨by kernel_rfl, rfl⟩) (by assumption) ?_
          try simp only [Act.put, List.setIfInBounds_toArray, List.set_cons_zero, List.set_cons_succ, List.getElem_toArray, List.getElem_cons_succ, List.getElem_cons_zero]
          refine wpAnyH_take (i := 24) (v := ?gv28) rfl (by kernel_rfl) (by kernel_rfl) (by kernel_rfl) (fun _ _ _ h => h) (Or.inl ⟨by kernel_rfl, ?gy28⟩) (by assumption) ?gr28
          case gy28 => (intro w' hSw; (try dsimp only at hSw); go_simp; (try with_reducible rfl))
          try simp only [Act.put, List.setIfInBounds_toArray, List.set_cons_zero, List.set_cons_succ, List.getElem_toArray, List.getElem_cons_succ, List.getElem_cons_zero]
          refine wpAnyH_take (i := 25) (v := ?gv29) rfl (by kernel_rfl) (by kernel_rfl) (by kernel_rfl) (fun _ _ _ h => h) (Or.inl ⟨by kernel_rfl, ?gy29⟩) (by assumption) ?gr29
          case gy29 => (intro w' hSw; (try dsimp only at hSw); go_simp; (try with_reducible rfl))
          try simp only [Act.put, List.setIfInBounds_toArray, List.set_cons_zero, List.set_cons_succ, List.getElem_toArray, List.getElem_cons_succ, List.getElem_cons_zero]
          refine wpAnyH_take (i := 26) (v := undef) rfl (by kernel_rfl) (by kernel_rfl) (by kernel_rfl) (fun _ _ _ h => h) (Or.inr ⟨by kernel_rfl, rfl⟩) (by assumption) ?_
          try simp only [Act.put, List.setIfInBounds_toArray, List.set_cons_zero, List.set_cons_succ, List.getElem_toArray, List.getElem_cons_succ, List.getElem_cons_zero]
          refine wpAnyH_take (i := 27) (v := undef) rfl (by kernel_rfl) (by kernel_rfl) (by kernel_rfl) (fun _ _ _ h => h) (Or.inr ⟨by kernel_rfl, rfl⟩) (by assumption) ?_
          try simp only [Act.put, List.setIfInBounds_toArray, List.set_cons_zero, List.set_cons_succ, List.getElem_toArray, List.getElem_cons_succ, List.getElem_cons_zero]
          refine wpAnyH_take (i := 28) (v := undef) rfl (by kernel_rfl) (by kernel_rfl) (by kernel_rfl) (fun _ _ _ h => h) (Or.inr ⟨by kernel_rfl, rfl⟩) (by assumption) ?_
          try simp only [Act.put, List.setIfInBounds_toArray, List.set_cons_zero, List.set_cons_succ, List.getElem_toArray, List.getElem_cons_succ, List.getElem_cons_zero]
          refine wpAnyH_take (i := 29) (v := undef) rfl (by kernel_rfl) (by kernel_rfl) (by kernel_rfl) (fun _ _ _ h => h) (Or.inr ⟨by kernel_rfl, rfl⟩) (by assumption) ?_
          try simp only [Act.put, List.setIfInBounds_toArray, List.set_cons_zero, List.set_cons_succ, List.getElem_toArray, List.getElem_cons_succ, List.getElem_cons_zero]
          refine wpAnyH_take (i := 30) (v := undef) rfl (by kernel_rfl) (by kernel_rfl) (by kernel_rfl) (fun _ _ _ h => h) (Or.inr ⟨by kernel_rfl, rfl⟩) (by assumption) ?_
          try simp only [Act.put, List.setIfInBounds_toArray, List.set_cons_zero, List.set_cons_succ, List.getElem_toArray, List.getElem_cons_succ, List.getElem_cons_zero]
          refine wpAnyH_take (i := 31) (v := undef) rfl (by kernel_rfl) (by kernel_rfl) (by kernel_rfl) (fun _ _ _ h => h) (Or.inr ⟨by kernel_rfl, rfl⟩) (by assumption) ?_
          try simp only [Act.put, List.setIfInBounds_toArray, List.set_cons_zero, List.set_cons_succ, List.getElem_toArray, List.getElem_cons_succ, List.getElem_cons_zero]
          refine wpAnyH_take (i := 32) (v := undef) rfl (by kernel_rfl) (by kernel_rfl) (by kernel_rfl) (fun _ _ _ h => h) (Or.inr ⟨by kernel_rfl, rfl⟩) (by assumption) ?_
          try simp only [Act.put, List.setIfInBounds_toArray, List.set_cons_zero, List.set_cons_succ, List.getElem_toArray, List.getElem_cons_succ, List.getElem_cons_zero]
          refine wpAnyH_take (i := 33) (v := undef) rfl (by kernel_rfl) (by kernel_rfl) (by kernel_rfl) (fun _ _ _ h => h) (Or.inr ⟨by kernel_rfl, rfl⟩) (by assumption) ?_
          try simp only [Act.put, List.setIfInBounds_toArray, List.set_cons_zero, List.set_cons_succ, List.getElem_toArray, List.getElem_cons_succ, List.getElem_cons_zero]
          refine wpAnyH_take (i := 34) (v := undef) rfl (by kernel_rfl) (by kernel_rfl) (by kernel_rfl) (fun _ _ _ h => h) (Or.inr ⟨by kernel_rfl, rfl⟩) (by assumption) ?_
          try simp only [Act.put, List.setIfInBounds_toArray, List.set_cons_zero, List.set_cons_succ, List.getElem_toArray, List.getElem_cons_succ, List.getElem_cons_zero]
          refine wpAnyH_take (i := 35) (v := undef) rfl (by kernel_rfl) (by kernel_rfl) (by kernel_rfl) (fun _ _ _ h => h) (Or.inr ⟨by kernel_rfl, rfl⟩) (by assumption) ?_
          try simp only [Act.put, List.setIfInBounds_toArray, List.set_cons_zero, List.set_cons_succ, List.getElem_toArray, List.getElem_cons_succ, List.getElem_cons_zero]
          refine wpAnyH_take (i := 36) (v := undef) rfl (by kernel_rfl) (by kernel_rfl) (by kernel_rfl) (fun _ _ _ h => h) (Or.inr ⟨by kernel_rfl, rfl⟩) (by assumption) ?_
          try simp only [Act.put, List.setIfInBounds_toArray, List.set_cons_zero, List.set_cons_succ, List.getElem_toArray, List.getElem_cons_succ, List.getElem_cons_zero]
          refine wpAnyH_take (i := 37) (v := undef) rfl (by kernel_rfl) (by kernel_rfl) (by kernel_rfl) (fun _ _ _ h => h) (Or.inr ⟨by kernel_rfl, rfl⟩) (by assumption) ?_
          try simp only [Act.put, List.setIfInBounds_toArray, List.set_cons_zero, List.set_cons_succ, List.getElem_toArray, List.getElem_cons_succ, List.getElem_cons_zero]
          refine wpAnyH_take (i := 38) (v := undef) rfl (by kernel_rfl) (by kernel_rfl) (by kernel_rfl) (fun _ _ _ h => h) (Or.inr ⟨by kernel_rfl, rfl⟩) (by assumption) ?_
          try simp only [Act.put, List.setIfInBounds_toArray, List.set_cons_zero, List.set_cons_succ, List.getElem_toArray, List.getElem_cons_succ, List.getElem_cons_zero]
          refine wpAnyH_take (i := 39) (v := undef) rfl (by kernel_rfl) (by kernel_rfl) (by kernel_rfl) (fun _ _ _ h => h) (Or.inr ⟨by kernel_rfl, rfl⟩) (by assumption) ?_
          try simp only [Act.put, List.setIfInBounds_toArray, List.set_cons_zero, List.set_cons_succ, List.getElem_toArray, List.getElem_cons_succ, List.getElem_cons_zero]
          refine wpAnyH_take (i := 40) (v := undef) rfl (by kernel_rfl) (by kernel_rfl) (by kernel_rfl) (fun _ _ _ h => h) (Or.inr ⟨by kernel_rfl, rfl⟩) (by assumption) ?_
          try simp only [Act.put, List.setIfInBounds_toArray, List.set_cons_zero, List.set_cons_succ, List.getElem_toArray, List.getElem_cons_succ, List.getElem_cons_zero]
          refine wpAnyH_take (i := 41) (v := undef) rfl (by kernel_rfl) (by kernel_rfl) (by kernel_rfl) (fun _ _ _ h => h) (Or.inr ⟨by kernel_rfl, rfl⟩) (by assumption) ?_
          try simp only [Act.put, List.setIfInBounds_toArray, List.set_cons_zero, List.set_cons_succ, List.getElem_toArray, List.getElem_cons_succ, List.getElem_cons_zero]
          refine wpAnyH_take (i := 42) (v := ?gv30) rfl (by kernel_rfl) (by kernel_rfl) (by kernel_rfl) (fun _ _ _ h => h) (Or.inl ⟨by kernel_rfl, ?gy30⟩) (by assumption) ?gr30
          case gy30 => (intro w' hSw; (try dsimp only at hSw); go_simp; (try with_reducible rfl))
          try simp only [Act.put, List.setIfInBounds_toArray, List.set_cons_zero, List.set_cons_succ, List.getElem_toArray, List.getElem_cons_succ, List.getElem_cons_zero]
          refine wpAnyH_done (by kernel_rfl) (NoPanic.normal ?_) _
          go_wp2
          go_ret
          exact ⟨ret_bool hfin.out.symm, HBD.out⟩
        | true =>
          cases h3 : (decide (0 ≤ v) && decide (v ≤ 400)) with
          | false =>
            have hfin : Hid (faultsB fs = false) := HNO.out (by rw [HAT.out]; unfold ftOk; dsimp only; rw [h1, h2, h3]; rfl)
            rw [h1] at hN
            rw [h2] at hL
            rw [h3] at hM
            clear HNO HYES HAT h1 h2 h3
            go_upto_region 4 with fail
            refine wp_region_noPanic ?_
            refine wp_region_held_drew (S := fun W : World => W.cell? ⟨b, off + k * 3, none⟩ = some (.int .i64 t) ∧ W.cell? ⟨b, off + k * 3 + 1, none⟩ = some (.int .i64 u) ∧ W.cell? ⟨b, off + k * 3 + 2, none⟩ = some (.int .i64 v)) (by kernel_rfl) (by go_keep) (fun hS => ?_)
            refine wpAnyH_take (i := 0) (v := ?gv31) rfl (by kernel_rfl) (by kernel_rfl) (by kernel_rfl) (fun _ _ _ h => h) (Or.inl ⟨by kernel_rfl, ?gy31⟩) (by assumption) ?gr31
            case gy31 => (intro w' hSw; (try dsimp only at hSw); go_simp; (try with_reducible rfl))
            try simp only [Act.put, List.setIfInBounds_toArray, List.set_cons_zero, List.set_cons_succ, List.getElem_toArray, List.getElem_cons_zero]
            refine wpAnyH_take (i := 1) (v := ?gv32) rfl (by kernel_rfl) (by kernel_rfl) (by kernel_rfl) (fun _ _ _ h => h) (Or.inl ⟨by kernel_rfl, ?gy32⟩) (by assumption) ?gr32
            case gy32 => (intro w' hSw; (try dsimp only at hSw); go_simp; (try with_reducible rfl))
            try simp only [Act.put, List.setIfInBounds_toArray, List.set_cons_zero, List.set_cons_succ, List.getElem_toArray, List.getElem_cons_succ, List.getElem_cons_zero]
            refine wpAnyH_take (i := 2) (v := ?gv33) rfl (by kernel_rfl) (by kernel_rfl) (by kernel_rfl) (fun _ _ _ h => h) (Or.inl ⟨by kernel_rfl, ?gy33⟩) (by assumption) ?gr33
            case gy33 => (intro w' hSw; (try dsimp only at hSw); go_simp; (try with_reducible rfl))
            try simp only [Act.put, List.setIfInBounds_toArray, List.set_cons_zero, List.set_cons_succ, List.getElem_toArray, List.getElem_cons_succ, List.getElem_cons_zero]
            refine wpAnyH_take (i := 3) (v := ?gv34) rfl (by kernel_rfl) (by kernel_rfl) (by kernel_rfl) (fun _ _ _ h => h) (Or.inl ⟨by kernel_rfl, ?gy34⟩) (by assumption) ?gr34
            case gy34 => (intro w' hSw; (try dsimp only at hSw); go_simp; (try with_reducible rfl))
            try simp only [Act.put, List.setIfInBounds_toArray, List.set_cons_zero, List.set_cons_succ, List.getElem_toArray, List.getElem_cons_succ, List.getElem_cons_zero]
            refine wpAnyH_take (i := 4) (v := ?gv35) rfl (by kernel_rfl) (by kernel_rfl) (by kernel_rfl) (fun _ _ _ h => h) (Or.inl ⟨by kernel_rfl, ?gy35⟩) (by assumption) ?gr35
            case gy35 => (intro w' hSw; (try dsimp only at hSw); go_simp; (try with_reducible rfl))
            try simp only [Act.put, List.setIfInBounds_toArray, List.set_cons_zero, List.set_cons_succ, List.getElem_toArray, List.getElem_cons_succ, List.getElem_cons_zero]
            refine wpAnyH_ready (rs := [5]) (by kernel_rfl) (by simp) ?_
            refine AllReadyH.cons rfl (fun K hK => ?_) AllReadyH.nil
            go_simp
            (with_reducible refine (hN _).mono ?_)
            rintro e u5 ⟨rfl, hu5⟩
            subst hu5
            clear hS
            dsimp only
            refine Shut.out hK _ _ (⟨x0, x1, x2⟩) (fun hS => ?_)
            try simp only [Act.put, List.setIfInBounds_toArray, List.set_cons_zero, List.set_cons_succ, List.getElem_toArray, List.getElem_cons_succ, List.getElem_cons_zero]
            refine wpAnyH_take (i := 6) (v := ?gv36) rfl (by kernel_rfl) (by kernel_rfl) (by kernel_rfl) (fun _ _ _ h => h) (Or.inl ⟨by kernel_rfl, ?gy36⟩) (by assumption) ?gr36
            case gy36 => (intro w' hSw; (try dsimp only at hSw); go_simp; (try with_reducible rfl))
            try simp only [Act.put, List.setIfInBounds_toArray, List.set_cons_zero, List.set_cons_succ, List.getElem_toArray, List.getElem_cons_succ, List.getElem_cons_zero]
            refine wpAnyH_take (i := 7) (v := ?gv37) rfl (by kernel_rfl) (by kernel_rfl) (by kernel_rfl) (fun _ _ _ h => h) (Or.inl ⟨by kernel_rfl, ?gy37⟩) (by assumption) ?gr37
            case gy37 => (intro w' hSw; (try dsimp only at hSw); go_simp; (try with_reducible rfl))
            try simp only [Act.put, List.setIfInBounds_toArray, List.set_cons_zero, List.set_cons_succ, List.getElem_toArray, List.getElem_cons_succ, List.getElem_cons_zero]
            refine wpAnyH_take (i := 8) (v := ?gv38) rfl (by kernel_rfl) (by kernel_rfl) (by kernel_rfl) (fun _ _ _ h => h) (Or.inl ⟨by kernel_rfl, ?gy38⟩) (by assumption) ?gr38
            case gy38 => (intro w' hSw; (try dsimp only at hSw); go_simp; (try with_reducible rfl))
            try simp only [Act.put, List.setIfInBounds_toArray, List.set_cons_zero, List.set_cons_succ, List.getElem_toArray, List.getElem_cons_succ, List.getElem_cons_zero]
            refine wpAnyH_take (i := 9) (v := ?gv39) rfl (by kernel_rfl) (by kernel_rfl) (by kernel_rfl) (fun _ _ _ h => h) (Or.inl ⟨by kernel_rfl, ?gy39⟩) (by assumption) ?gr39
            case gy39 => (intro w' hSw; (try dsimp only at hSw); go_simp; (try with_reducible rfl))
            try simp only [Act.put, List.setIfInBounds_toArray, List.set_cons_zero, List.set_cons_succ, List.getElem_toArray, List.getElem_cons_succ, List.getElem_cons_zero]
            refine wpAnyH_take (i := 10) (v := ?gv40) rfl (by kernel_rfl) (by kernel_rfl) (by kernel_rfl) (fun _ _ _ h => h) (Or.inl ⟨by kernel_rfl, ?gy40⟩) (by assumption) ?gr40
            case gy40 => (intro w' hSw; (try dsimp only at hSw); go_simp; (try with_reducible rfl))
            try simp only [Act.put, List.setIfInBounds_toArray, List.set_cons_zero, List.set_cons_succ, List.getElem_toArray, List.getElem_cons_succ, List.getElem_cons_zero]
            refine wpAnyH_take (i := 11) (v := ?gv41) rfl (by kernel_rfl) (by kernel_rfl) (by kernel_rfl) (fun _ _ _ h => h) (Or.inl ⟨by kernel_rfl, ?gy41⟩) (by assumption) ?gr41
            case gy41 => (intro w' hSw; (try dsimp only at hSw); go_simp; (try with_reducible rfl))
            try simp only [Act.put, List.setIfInBounds_toArray, List.set_cons_zero, List.set_cons_succ, List.getElem_toArray, List.getElem_cons_succ, List.getElem_cons_zero]
            refine wpAnyH_take (i := 12) (v := ?gv42) rfl (by kernel_rfl) (by kernel_rfl) (by kernel_rfl) (fun _ _ _ h => h) (Or.inl ⟨by kernel_rfl, ?gy42⟩) (by assumption) ?gr42
            case gy42 => (intro w' hSw; (try dsimp only at hSw); go_simp; (try with_reducible rfl))
            try simp only [Act.put, List.setIfInBounds_toArray, List.set_cons_zero, List.set_cons_succ, List.getElem_toArray, List.getElem_cons_succ, List.getElem_cons_zero]
            refine wpAnyH_ready (rs := [13]) (by kernel_rfl) (by simp) ?_
            refine AllReadyH.cons rfl (fun K hK => ?_) AllReadyH.nil
            go_simp
            (with_reducible refine (hL _).mono ?_)
            rintro e u13 ⟨rfl, hu13⟩
            subst hu13
            clear hS
            dsimp only
            refine Shut.out hK _ _ (⟨x0, x1, x2⟩) (fun hS => ?_)
            try simp only [Act.put, List.setIfInBounds_toArray, List.set_cons_zero, List.set_cons_succ, List.getElem_toArray, List.getElem_cons_succ, List.getElem_cons_zero]
            refine wpAnyH_take (i := 14) (v := ?gv43) rfl (by kernel_rfl) (by kernel_rfl) (by kernel_rfl) (fun _ _ _ h => h) (Or.inl ⟨by kernel_rfl, ?gy43⟩) (by assumption) ?gr43
            case gy43 => (intro w' hSw; (try dsimp only at hSw); go_simp; (try with_reducible rfl))
            try simp only [Act.put, List.setIfInBounds_toArray, List.set_cons_zero, List.set_cons_succ, List.getElem_toArray, List.getElem_cons_succ, List.getElem_cons_zero]
            refine wpAnyH_take (i := 15) (v := ?gv44) rfl (by kernel_rfl) (by kernel_rfl) (by kernel_rfl) (fun _ _ _ h => h) (Or.inl ⟨by kernel_rfl, ?gy44⟩) (by assumption) ?gr44
            case gy44 => (intro w' hSw; (try dsimp only at hSw); go_simp; (try with_reducible rfl))
            try simp only [Act.put, List.setIfInBounds_toArray, List.set_cons_zero, List.set_cons_succ, List.getElem_toArray, List.getElem_cons_succ, List.getElem_cons_zero]
            refine wpAnyH_take (i := 16) (v := ?gv45) rfl (by kernel_rfl) (by kernel_rfl) (by kernel_rfl) (fun _ _ _ h => h) (Or.inl ⟨by kernel_rfl, ?gy45⟩) (by assumption) ?gr45
            case gy45 => (intro w' hSw; (try dsimp only at hSw); go_simp; (try with_reducible rfl))
            try simp only [Act.put, List.setIfInBounds_toArray, List.set_cons_zero, List.set_cons_succ, List.getElem_toArray, List.getElem_cons_succ, List.getElem_cons_zero]
            refine wpAnyH_take (i := 17) (v := ?gv46) rfl (by kernel_rfl) (by kernel_rfl) (by kernel_rfl) (fun _ _ _ h => h) (Or.inl ⟨by kernel_rfl, ?gy46⟩) (by assumption) ?gr46
            case gy46 => (intro w' hSw; (try dsimp only at hSw); go_simp; (try with_reducible rfl))
            try simp only [Act.put, List.setIfInBounds_toArray, List.set_cons_zero, List.set_cons_succ, List.getElem_toArray, List.getElem_cons_succ, List.getElem_cons_zero]
            refine wpAnyH_take (i := 18) (v := ?gv47) rfl (by kernel_rfl) (by kernel_rfl) (by kernel_rfl) (fun _ _ _ h => h) (Or.inl ⟨by kernel_rfl, ?gy47⟩) (by assumption) ?gr47
            case gy47 => (intro w' hSw; (try dsimp only at hSw); go_simp; (try with_reducible rfl))
            try simp only [Act.put, List.setIfInBounds_toArray, List.set_cons_zero, List.set_cons_succ, List.getElem_toArray, List.getElem_cons_succ, List.getElem_cons_zero]
            refine wpAnyH_take (i := 19) (v := ?gv48) rfl (by kernel_rfl) (by kernel_rfl) (by kernel_rfl) (fun _ _ _ h => h) (Or.inl ⟨by kernel_rfl, ?gy48⟩) (by assumption) ?gr48
            case gy48 => (intro w' hSw; (try dsimp only at hSw); go_simp; (try with_reducible rfl))
            try simp only [Act.put, List.setIfInBounds_toArray, List.set_cons_zero, List.set_cons_succ, List.getElem_toArray, List.getElem_cons_succ, List.getElem_cons_zero]
            refine wpAnyH_take (i := 20) (v := ?gv49) rfl (by kernel_rfl) (by kernel_rfl) (by kernel_rfl) (fun _ _ _ h => h) (Or.inl ⟨by kernel_rfl, ?gy49⟩) (by assumption) ?gr49
            case gy49 => (intro w' hSw; (try dsimp only at hSw); go_simp; (try with_reducible rfl))
            try simp only [Act.put, List.setIfInBounds_toArray, List.set_cons_zero, List.set_cons_succ, List.getElem_toArray, List.getElem_cons_succ, List.getElem_cons_zero]
            refine wpAnyH_take (i := 21) (v := ?gv50) rfl (by kernel_rfl) (by kernel_rfl) (by kernel_rfl) (fun _ _ _ h => h) (Or.inl ⟨by kernel_rfl, ?gy50⟩) (by assumption) ?gr50
            case gy50 => (intro w' hSw; (try dsimp only at hSw); go_simp; (try with_reducible rfl))
            try simp only [Act.put, List.setIfInBounds_toArray, List.set_cons_zero, List.set_cons_succ, List.getElem_toArray, List.getElem_cons_succ, List.getElem_cons_zero]
            refine wpAnyH_ready (rs := [22]) (by kernel_rfl) (by simp) ?_
            refine AllReadyH.cons rfl (fun K hK => ?_) AllReadyH.nil
            go_simp
            (with_reducible refine (hM _).mono ?_)
            rintro e u22 ⟨rfl, hu22⟩
            subst hu22
            clear hS
            dsimp only
            refine Shut.out hK _ _ (⟨x0, x1, x2⟩) (fun hS => ?_)
            try simp only [Act.put, List.setIfInBounds_toArray, List.set_cons_zero, List.set_cons_succ, List.getElem_toArray, List.getElem_cons_succ, List.getElem_cons_zero]
            refine wpAnyH_take (i := 23) (v := ?gv51) rfl (by kernel_rfl) (by kernel_rfl) (by kernel_rfl) (fun _ _ _ h => h) (Or.inl ⟨by kernel_rfl, ?gy51⟩) (by assumption) ?gr51
            case gy51 => (intro w' hSw; (try dsimp only at hSw); go_simp; (try with_reducible rfl))
            try simp only [Act.put, List.setIfInBounds_toArray, List.set_cons_zero, List.set_cons_succ, List.getElem_toArray, List.getElem_cons_succ, List.getElem_cons_zero]
            refine wpAnyH_take (i := 24) (v := ?gv52) rfl (by kernel_rfl) (by kernel_rfl) (by kernel_rfl) (fun _ _ _ h => h) (Or.inl ⟨by kernel_rfl, ?gy52⟩) (by assumption) ?gr52
            case gy52 => (intro w' hSw; (try dsimp only at hSw); go_simp; (try with_reducible rfl))
            try simp only [Act.put, List.setIfInBounds_toArray, List.set_cons_zero, List.set_cons_succ, List.getElem_toArray, List.getElem_cons_succ, List.getElem_cons_zero]
            refine wpAnyH_take (i := 25) (v := ?gv53) rfl (by kernel_rfl) (by kernel_rfl) (by kernel_rfl) (fun _ _ _ h => h) (Or.inl ⟨by kernel_rfl, ?gy53⟩) (by assumption) ?gr53
            case gy53 => (intro w' hSw; (try dsimp only at hSw); go_simp; (try with_reducible rfl))
            try simp only [Act.put, List.setIfInBounds_toArray, List.set_cons_zero, List.set_cons_succ, List.getElem_toArray, List.getElem_cons_succ, List.getElem_cons_zero]
            refine wpAnyH_take (i := 26) (v := undef) rfl (by kernel_rfl) (by kernel_rfl) (by kernel_rfl) (fun _ _ _ h => h) (Or.inr ⟨by kernel_rfl, rfl⟩) (by assumption) ?_
            try simp only [Act.put, List.setIfInBounds_toArray, List.set_cons_zero, List.set_cons_succ, List.getElem_toArray, List.getElem_cons_succ, List.getElem_cons_zero]
            refine wpAnyH_take (i := 27) (v := undef) rfl (by kernel_rfl) (by kernel_rfl) (by kernel_rfl) (fun _ _ _ h => h) (Or.inr ⟨by kernel_rfl, rfl⟩) (by assumption) ?_
            try simp only [Act.put, List.setIfInBounds_toArray, List.set_cons_zero, List.set_cons_succ, List.getElem_toArray, List.getElem_cons_succ, List.getElem_cons_zero]
            refine wpAnyH_take (i := 28) (v := undef) rfl (by kernel_rfl) (by kernel_rfl) (by kernel_rfl) (fun _ _ _ h => h) (Or.inr ⟨by kernel_rfl, rfl⟩) (by assumption) ?_
            try simp only [Act.put, List.setIfInBounds_toArray, List.set_cons_zero, List.set_cons_succ, List.getElem_toArray, List.getElem_cons_succ, List.getElem_cons_zero]
            refine wpAnyH_take (i := 29) (v := undef) rfl (by kernel_rfl) (by kernel_rfl) (by kernel_rfl) (fun _ _ _ h => h) (Or.inr ⟨by kernel_rfl, rfl⟩) (by assumption) ?_
            try simp only [Act.put, List.setIfInBounds_toArray, List.set_cons_zero, List.set_cons_succ, List.getElem_toArray, List.getElem_cons_succ, List.getElem_cons_zero]
            refine wpAnyH_take (i := 30) (v := undef) rfl (by kernel_rfl) (by kernel_rfl) (by kernel_rfl) (fun _ _ _ h => h) (Or.inr ⟨by kernel_rfl, rfl⟩) (by assumption) ?_
            try simp only [Act.put, List.setIfInBounds_toArray, List.set_cons_zero, List.set_cons_succ, List.getElem_toArray, List.getElem_cons_succ, List.getElem_cons_zero]
            refine wpAnyH_take (i := 31) (v := undef) rfl (by kernel_rfl) (by kernel_rfl) (by kernel_rfl) (fun _ _ _ h => h) (Or.inr ⟨by kernel_rfl, rfl⟩) (by assumption) ?_
            try simp only [Act.put, List.setIfInBounds_toArray, List.set_cons_zero, List.set_cons_succ, List.getElem_toArray, List.getElem_cons_succ, List.getElem_cons_zero]
            refine wpAnyH_take (i := 32) (v := undef) rfl (by kernel_rfl) (by kernel_rfl) (by kernel_rfl) (fun _ _ _ h => h) (Or.inr ⟨by kernel_rfl, rfl⟩) (by assumption) ?_
            try simp only [Act.put, List.setIfInBounds_toArray, List.set_cons_zero, List.set_cons_succ, List.getElem_toArray, List.getElem_cons_succ, List.getElem_cons_zero]
            refine wpAnyH_take (i := 33) (v := undef) rfl (by kernel_rfl) (by kernel_rfl) (by kernel_rfl) (fun _ _ _ h => h) (Or.inr ⟨by kernel_rfl, rfl⟩) (by assumption) ?_
            try simp only [Act.put, List.setIfInBounds_toArray, List.set_cons_zero, List.set_cons_succ, List.getElem_toArray, List.getElem_cons_succ, List.getElem_cons_zero]
            refine wpAnyH_take (i := 34) (v := undef) rfl (by kernel_rfl) (by kernel_rfl) (by kernel_rfl) (fun _ _ _ h => h) (Or.inr ⟨by kernel_rfl, rfl⟩) (by assumption) ?_
            try simp only [Act.put, List.setIfInBounds_toArray, List.set_cons_zero, List.set_cons_succ, List.getElem_toArray, List.getElem_cons_succ, List.getElem_cons_zero]
            refine wpAnyH_take (i := 35) (v := undef) rfl (by kernel_rfl) (by kernel_rfl) (by kernel_rfl) (fun _ _ _ h => h) (Or.inr ⟨by kernel_rfl, rfl⟩) (by assumption) ?_
            try simp only [Act.put, List.setIfInBounds_toArray, List.set_cons_zero, List.set_cons_succ, List.getElem_toArray, List.getElem_cons_succ, List.getElem_cons_zero]
            refine wpAnyH_take (i := 36) (v := undef) rfl (by kernel_rfl) (by kernel_rfl) (by kernel_rfl) (fun _ _ _ h => h) (Or.inr ⟨by kernel_rfl, rfl⟩) (by assumption) ?_
            try simp only [Act.put, List.setIfInBounds_toArray, List.set_cons_zero, List.set_cons_succ, List.getElem_toArray, List.getElem_cons_succ, List.getElem_cons_zero]
            refine wpAnyH_take (i := 37) (v := undef) rfl (by kernel_rfl) (by kernel_rfl) (by kernel_rfl) (fun _ _ _ h => h) (Or.inr ⟨by kernel_rfl, rfl⟩) (by assumption) ?_
            try simp only [Act.put, List.setIfInBounds_toArray, List.set_cons_zero, List.set_cons_succ, List.getElem_toArray, List.getElem_cons_succ, List.getElem_cons_zero]
            refine wpAnyH_take (i := 38) (v := undef) rfl (by kernel_rfl) (by kernel_rfl) (by kernel_rfl) (fun _ _ _ h => h) (Or.inr ⟨by kernel_rfl, rfl⟩) (by assumption) ?_
            try simp only [Act.put, List.setIfInBounds_toArray, List.set_cons_zero, List.set_cons_succ, List.getElem_toArray, List.getElem_cons_succ, List.getElem_cons_zero]
            refine wpAnyH_take (i := 39) (v := undef) rfl (by kernel_rfl) (by kernel_rfl) (by kernel_rfl) (fun _ _ _ h => h) (Or.inr ⟨by kernel_rfl, rfl⟩) (by assumption) ?_
            try simp only [Act.put, List.setIfInBounds_toArray, List.set_cons_zero, List.set_cons_succ, List.getElem_toArray, List.getElem_cons_succ, List.getElem_cons_zero]
            refine wpAnyH_take (i := 40) (v := undef) rfl (by kernel_rfl) (by kernel_rfl) (by kernel_rfl) (fun _ _ _ h => h) (Or.inr ⟨by kernel_rfl, rfl⟩) (by assumption) ?_
            try simp only [Act.put, List.setIfInBounds_toArray, List.set_cons_zero, List.set_cons_succ, List.getElem_toArray, List.getElem_cons_succ, List.getElem_cons_zero]
            refine wpAnyH_take (i := 41) (v := undef) rfl (by kernel_rfl) (by kernel_rfl) (by kernel_rfl) (fun _ _ _ h => h) (Or.inr ⟨by kernel_rfl, rfl⟩) (by assumption) ?_
            try simp only [Act.put, List.setIfInBounds_toArray, List.set_cons_zero, List.set_cons_succ, List.getElem_toArray, List.getElem_cons_succ, List.getElem_cons_zero]
            refine wpAnyH_take (i := 42) (v := ?gv54) rfl (by kernel_rfl) (by kernel_rfl) (by kernel_rfl) (fun _ _ _ h => h) (Or.inl ⟨by kernel_rfl, ?gy54⟩) (by assumption) ?gr54
            case gy54 => (intro w' hSw; (try dsimp only at hSw); go_simp; (try with_reducible rfl))
            try simp only [Act.put, List.setIfInBounds_toArray, List.set_cons_zero, List.set_cons_succ, List.getElem_toArray, List.getElem_cons_succ, List.getElem_cons_zero]
            refine wpAnyH_done (by kernel_rfl) (NoPanic.normal ?_) _
            go_wp2
            go_ret
            exact ⟨ret_bool hfin.out.symm, HBD.out⟩
          | true =>
            have hok : ftOk ⟨t, u, v⟩ = true := by unfold ftOk; dsimp only; rw [h1, h2, h3]; rfl
            rw [h1] at hN
            rw [h2] at hL
            rw [h3] at hM
            clear h1 h2 h3
            by_cases hk0 : k = 0
            · have hnx : Hid _ := HYES.out (by rw [HAT.out, hok, decide_eq_true hk0]; rfl)
              clear HNO HYES HAT hok
              subst hk0
              simp only [Nat.zero_mul, Nat.add_zero] at x0 x1 x2
              go_upto_region 4 with fail
              refine wp_region_noPanic ?_
              refine wp_region_held_drew (S := fun W : World => W.cell? ⟨b, off, none⟩ = some (.int .i64 t) ∧ W.cell? ⟨b, off + 1, none⟩ = some (.int .i64 u) ∧ W.cell? ⟨b, off + 2, none⟩ = some (.int .i64 v)) (by kernel_rfl) (by go_keep) (fun hS => ?_)
              refine wpAnyH_take (i := 0) (v := ?gv55) rfl (by kernel_rfl) (by kernel_rfl) (by kernel_rfl) (fun _ _ _ h => h) (Or.inl ⟨by kernel_rfl, ?gy55⟩) (by assumption) ?gr55
              case gy55 => (intro w' hSw; (try dsimp only at hSw); go_simp; (try with_reducible rfl))
              try simp only [Act.put, List.setIfInBounds_toArray, List.set_cons_zero, List.set_cons_succ, List.getElem_toArray, List.getElem_cons_zero]
              refine wpAnyH_take (i := 1) (v := ?gv56) rfl (by kernel_rfl) (by kernel_rfl) (by kernel_rfl) (fun _ _ _ h => h) (Or.inl ⟨by kernel_rfl, ?gy56⟩) (by assumption) ?gr56
              case gy56 => (intro w' hSw; (try dsimp only at hSw); go_simp; (try with_reducible rfl))
              try simp only [Act.put, List.setIfInBounds_toArray, List.set_cons_zero, List.set_cons_succ, List.getElem_toArray, List.getElem_cons_succ, List.getElem_cons_zero]
              refine wpAnyH_take (i := 2) (v := ?gv57) rfl (by kernel_rfl) (by kernel_rfl) (by kernel_rfl) (fun _ _ _ h => h) (Or.inl ⟨by kernel_rfl, ?gy57⟩) (by assumption) ?gr57
              case gy57 => (intro w' hSw; (try dsimp only at hSw); go_simp; (try with_reducible rfl))
              try simp only [Act.put, List.setIfInBounds_toArray, List.set_cons_zero, List.set_cons_succ, List.getElem_toArray, List.getElem_cons_succ, List.getElem_cons_zero]
              refine wpAnyH_take (i := 3) (v := ?gv58) rfl (by kernel_rfl) (by kernel_rfl) (by kernel_rfl) (fun _ _ _ h => h) (Or.inl ⟨by kernel_rfl, ?gy58⟩) (by assumption) ?gr58
              case gy58 => (intro w' hSw; (try dsimp only at hSw); go_simp; (try with_reducible rfl))
              try simp only [Act.put, List.setIfInBounds_toArray, List.set_cons_zero, List.set_cons_succ, List.getElem_toArray, List.getElem_cons_succ, List.getElem_cons_zero]
              refine wpAnyH_take (i := 4) (v := ?gv59) rfl (by kernel_rfl) (by kernel_rfl) (by kernel_rfl) (fun _ _ _ h => h) (Or.inl ⟨by kernel_rfl, ?gy59⟩) (by assumption) ?gr59
              case gy59 => (intro w' hSw; (try dsimp only at hSw); go_simp; (try with_reducible rfl))
              try simp only [Act.put, List.setIfInBounds_toArray, List.set_cons_zero, List.set_cons_succ, List.getElem_toArray, List.getElem_cons_succ, List.getElem_cons_zero]
              refine wpAnyH_ready (rs := [5]) (by kernel_rfl) (by simp) ?_
              refine AllReadyH.cons rfl (fun K hK => ?_) AllReadyH.nil
              go_simp
              (with_reducible refine (hN _).mono ?_)
              rintro e u5 ⟨rfl, hu5⟩
              subst hu5
              clear hS
              dsimp only
              refine Shut.out hK _ _ (⟨x0, x1, x2⟩) (fun hS => ?_)
              try simp only [Act.put, List.setIfInBounds_toArray, List.set_cons_zero, List.set_cons_succ, List.getElem_toArray, List.getElem_cons_succ, List.getElem_cons_zero]
              refine wpAnyH_take (i := 6) (v := ?gv60) rfl (by kernel_rfl) (by kernel_rfl) (by kernel_rfl) (fun _ _ _ h => h) (Or.inl ⟨by kernel_rfl, ?gy60⟩) (by assumption) ?gr60
              case gy60 => (intro w' hSw; (try dsimp only at hSw); go_simp; (try with_reducible rfl))
              try simp only [Act.put, List.setIfInBounds_toArray, List.set_cons_zero, List.set_cons_succ, List.getElem_toArray, List.getElem_cons_succ, List.getElem_cons_zero]
              refine wpAnyH_take (i := 7) (v := ?gv61) rfl (by kernel_rfl) (by kernel_rfl) (by kernel_rfl) (fun _ _ _ h => h) (Or.inl ⟨by kernel_rfl, ?gy61⟩) (by assumption) ?gr61
              case gy61 => (intro w' hSw; (try dsimp only at hSw); go_simp; (try with_reducible rfl))
              try simp only [Act.put, List.setIfInBounds_toArray, List.set_cons_zero, List.set_cons_succ, List.getElem_toArray, List.getElem_cons_succ, List.getElem_cons_zero]
              refine wpAnyH_take (i := 8) (v := ?gv62) rfl (by kernel_rfl) (by kernel_rfl) (by kernel_rfl) (fun _ _ _ h => h) (Or.inl ⟨by kernel_rfl, ?gy62⟩) (by assumption) ?gr62
              case gy62 => (intro w' hSw; (try dsimp only at hSw); go_simp; (try with_reducible rfl))
              try simp only [Act.put, List.setIfInBounds_toArray, List.set_cons_zero, List.set_cons_succ, List.getElem_toArray, List.getElem_cons_succ, List.getElem_cons_zero]
              refine wpAnyH_take (i := 9) (v := ?gv63) rfl (by kernel_rfl) (by kernel_rfl) (by kernel_rfl) (fun _ _ _ h => h) (Or.inl ⟨by kernel_rfl, ?gy63⟩) (by assumption) ?gr63
              case gy63 => (intro w' hSw; (try dsimp only at hSw); go_simp; (try with_reducible rfl))
              try simp only [Act.put, List.setIfInBounds_toArray, List.set_cons_zero, List.set_cons_succ, List.getElem_toArray, List.getElem_cons_succ, List.getElem_cons_zero]
              refine wpAnyH_take (i := 10) (v := ?gv64) rfl (by kernel_rfl) (by kernel_rfl) (by kernel_rfl) (fun _ _ _ h => h) (Or.inl ⟨by kernel_rfl, ?gy64⟩) (by assumption) ?gr64
              case gy64 => (intro w' hSw; (try dsimp only at hSw); go_simp; (try with_reducible rfl))
              try simp only [Act.put, List.setIfInBounds_toArray, List.set_cons_zero, List.set_cons_succ, List.getElem_toArray, List.getElem_cons_succ, List.getElem_cons_zero]
              refine wpAnyH_take (i := 11) (v := ?gv65) rfl (by kernel_rfl) (by kernel_rfl) (by kernel_rfl) (fun _ _ _ h => h) (Or.inl ⟨by kernel_rfl, ?gy65⟩) (by assumption) ?gr65
              case gy65 => (intro w' hSw; (try dsimp only at hSw); go_simp; (try with_reducible rfl))
              try simp only [Act.put, List.setIfInBounds_toArray, List.set_cons_zero, List.set_cons_succ, List.getElem_toArray, List.getElem_cons_succ, List.getElem_cons_zero]
              refine wpAnyH_take (i := 12) (v := ?gv66) rfl (by kernel_rfl) (by kernel_rfl) (by kernel_rfl) (fun _ _ _ h => h) (Or.inl ⟨by kernel_rfl, ?gy66⟩) (by assumption) ?gr66
              case gy66 => (intro w' hSw; (try dsimp only at hSw); go_simp; (try with_reducible rfl))
              try simp only [Act.put, List.setIfInBounds_toArray, List.set_cons_zero, List.set_cons_succ, List.getElem_toArray, List.getElem_cons_succ, List.getElem_cons_zero]
              refine wpAnyH_ready (rs := [13]) (by kernel_rfl) (by simp) ?_
              refine AllReadyH.cons rfl (fun K hK => ?_) AllReadyH.nil
              go_simp
              (with_reducible refine (hL _).mono ?_)
              rintro e u13 ⟨rfl, hu13⟩
              subst hu13
              clear hS
              dsimp only
              refine Shut.out hK _ _ (⟨x0, x1, x2⟩) (fun hS => ?_)
              try simp only [Act.put, List.setIfInBounds_toArray, List.set_cons_zero, List.set_cons_succ, List.getElem_toArray, List.getElem_cons_succ, List.getElem_cons_zero]
              refine wpAnyH_take (i := 14) (v := ?gv67) rfl (by kernel_rfl) (by kernel_rfl) (by kernel_rfl) (fun _ _ _ h => h) (Or.inl ⟨by kernel_rfl, ?gy67⟩) (by assumption) ?gr67
              case gy67 => (intro w' hSw; (try dsimp only at hSw); go_simp; (try with_reducible rfl))
              try simp only [Act.put, List.setIfInBounds_toArray, List.set_cons_zero, List.set_cons_succ, List.getElem_toArray, List.getElem_cons_succ, List.getElem_cons_zero]
              refine wpAnyH_take (i := 15) (v := ?gv68) rfl (by kernel_rfl) (by kernel_rfl) (by kernel_rfl) (fun _ _ _ h => h) (Or.inl ⟨by kernel_rfl, ?gy68⟩) (by assumption) ?gr68
              case gy68 => (intro w' hSw; (try dsimp only at hSw); go_simp; (try with_reducible rfl))
              try simp only [Act.put, List.setIfInBounds_toArray, List.set_cons_zero, List.set_cons_succ, List.getElem_toArray, List.getElem_cons_succ, List.getElem_cons_zero]
              refine wpAnyH_take (i := 16) (v := ?gv69) rfl (by kernel_rfl) (by kernel_rfl) (by kernel_rfl) (fun _ _ _ h => h) (Or.inl ⟨by kernel_rfl, ?gy69⟩) (by assumption) ?gr69
              case gy69 => (intro w' hSw; (try dsimp only at hSw); go_simp; (try with_reducible rfl))
              try simp only [Act.put, List.setIfInBounds_toArray, List.set_cons_zero, List.set_cons_succ, List.getElem_toArray, List.getElem_cons_succ, List.getElem_cons_zero]
              refine wpAnyH_take (i := 17) (v := ?gv70) rfl (by kernel_rfl) (by kernel_rfl) (by kernel_rfl) (fun _ _ _ h => h) (Or.inl ⟨by kernel_rfl, ?gy70⟩) (by assumption) ?gr70
              case gy70 => (intro w' hSw; (try dsimp only at hSw); go_simp; (try with_reducible rfl))
              try simp only [Act.put, List.setIfInBounds_toArray, List.set_cons_zero, List.set_cons_succ, List.getElem_toArray, List.getElem_cons_succ, List.getElem_cons_zero]
              refine wpAnyH_take (i := 18) (v := ?gv71) rfl (by kernel_rfl) (by kernel_rfl) (by kernel_rfl) (fun _ _ _ h => h) (Or.inl ⟨by kernel_rfl, ?gy71⟩) (by assumption) ?gr71
              case gy71 => (intro w' hSw; (try dsimp only at hSw); go_simp; (try with_reducible rfl))
              try simp only [Act.put, List.setIfInBounds_toArray, List.set_cons_zero, List.set_cons_succ, List.getElem_toArray, List.getElem_cons_succ, List.getElem_cons_zero]
              refine wpAnyH_take (i := 19) (v := ?gv72) rfl (by kernel_rfl) (by kernel_rfl) (by kernel_rfl) (fun _ _ _ h => h) (Or.inl ⟨by kernel_rfl, ?gy72⟩) (by assumption) ?gr72
              case gy72 => (intro w' hSw; (try dsimp only at hSw); go_simp; (try with_reducible rfl))
              try simp only [Act.put, List.setIfInBounds_toArray, List.set_cons_zero, List.set_cons_succ, List.getElem_toArray, List.getElem_cons_succ, List.getElem_cons_zero]
              refine wpAnyH_take (i := 20) (v := ?gv73) rfl (by kernel_rfl) (by kernel_rfl) (by kernel_rfl) (fun _ _ _ h => h) (Or.inl ⟨by kernel_rfl, ?gy73⟩) (by assumption) ?gr73
              case gy73 => (intro w' hSw; (try dsimp only at hSw); go_simp; (try with_reducible rfl))
              try simp only [Act.put, List.setIfInBounds_toArray, List.set_cons_zero, List.set_cons_succ, List.getElem_toArray, List.getElem_cons_succ, List.getElem_cons_zero]
              refine wpAnyH_take (i := 21) (v := ?gv74) rfl (by kernel_rfl) (by kernel_rfl) (by kernel_rfl) (fun _ _ _ h => h) (Or.inl ⟨by kernel_rfl, ?gy74⟩) (by assumption) ?gr74
              case gy74 => (intro w' hSw; (try dsimp only at hSw); go_simp; (try with_reducible rfl))
              try simp only [Act.put, List.setIfInBounds_toArray, List.set_cons_zero, List.set_cons_succ, List.getElem_toArray, List.getElem_cons_succ, List.getElem_cons_zero]
              refine wpAnyH_ready (rs := [22]) (by kernel_rfl) (by simp) ?_
              refine AllReadyH.cons rfl (fun K hK => ?_) AllReadyH.nil
              go_simp
              (with_reducible refine (hM _).mono ?_)
              rintro e u22 ⟨rfl, hu22⟩
              subst hu22
              clear hS
              dsimp only
              refine Shut.out hK _ _ (⟨x0, x1, x2⟩) (fun hS => ?_)
              try simp only [Act.put, List.setIfInBounds_toArray, List.set_cons_zero, List.set_cons_succ, List.getElem_toArray, List.getElem_cons_succ, List.getElem_cons_zero]
              refine wpAnyH_take (i := 23) (v := ?gv75) rfl (by kernel_rfl) (by kernel_rfl) (by kernel_rfl) (fun _ _ _ h => h) (Or.inl ⟨by kernel_rfl, ?gy75⟩) (by assumption) ?gr75
              case gy75 => (intro w' hSw; (try dsimp only at hSw); go_simp; (try with_reducible rfl))
              try simp only [Act.put, List.setIfInBounds_toArray, List.set_cons_zero, List.set_cons_succ, List.getElem_toArray, List.getElem_cons_succ, List.getElem_cons_zero]
              refine wpAnyH_take (i := 24) (v := ?gv76) rfl (by kernel_rfl) (by kernel_rfl) (by kernel_rfl) (fun _ _ _ h => h) (Or.inl ⟨by kernel_rfl, ?gy76⟩) (by assumption) ?gr76
              case gy76 => (intro w' hSw; (try dsimp only at hSw); go_simp; (try with_reducible rfl))
              try simp only [Act.put, List.setIfInBounds_toArray, List.set_cons_zero, List.set_cons_succ, List.getElem_toArray, List.getElem_cons_succ, List.getElem_cons_zero]
              refine wpAnyH_take (i := 25) (v := ?gv77) rfl (by kernel_rfl) (by kernel_rfl) (by kernel_rfl) (fun _ _ _ h => h) (Or.inl ⟨by kernel_rfl, ?gy77⟩) (by assumption) ?gr77
              case gy77 => (intro w' hSw; (try dsimp only at hSw); go_simp; (try with_reducible rfl))
              try simp only [Act.put, List.setIfInBounds_toArray, List.set_cons_zero, List.set_cons_succ, List.getElem_toArray, List.getElem_cons_succ, List.getElem_cons_zero]
              refine wpAnyH_take (i := 26) (v := ?gv78) rfl (by kernel_rfl) (by kernel_rfl) (by kernel_rfl) (fun _ _ _ h => h) (Or.inl ⟨by kernel_rfl, ?gy78⟩) (by assumption) ?gr78
              case gy78 => (intro w' hSw; (try dsimp only at hSw); go_simp; (try with_reducible rfl))
              try simp only [Act.put, List.setIfInBounds_toArray, List.set_cons_zero, List.set_cons_succ, List.getElem_toArray, List.getElem_cons_succ, List.getElem_cons_zero]
              refine wpAnyH_take (i := 27) (v := ?gv79) rfl (by kernel_rfl) (by kernel_rfl) (by kernel_rfl) (fun _ _ _ h => h) (Or.inl ⟨by kernel_rfl, ?gy79⟩) (by assumption) ?gr79
              case gy79 => (intro w' hSw; (try dsimp only at hSw); go_simp; (try with_reducible rfl))
              try simp only [Act.put, List.setIfInBounds_toArray, List.set_cons_zero, List.set_cons_succ, List.getElem_toArray, List.getElem_cons_succ, List.getElem_cons_zero]
              refine wpAnyH_take (i := 28) (v := ?gv80) rfl (by kernel_rfl) (by kernel_rfl) (by kernel_rfl) (fun _ _ _ h => h) (Or.inl ⟨by kernel_rfl, ?gy80⟩) (by assumption) ?gr80
              case gy80 => (intro w' hSw; (try dsimp only at hSw); go_simp; (try with_reducible rfl))
              try simp only [Act.put, List.setIfInBounds_toArray, List.set_cons_zero, List.set_cons_succ, List.getElem_toArray, List.getElem_cons_succ, List.getElem_cons_zero]
              refine wpAnyH_take (i := 29) (v := undef) rfl (by kernel_rfl) (by kernel_rfl) (by kernel_rfl) (fun _ _ _ h => h) (Or.inr ⟨by kernel_rfl, rfl⟩) (by assumption) ?_
              try simp only [Act.put, List.setIfInBounds_toArray, List.set_cons_zero, List.set_cons_succ, List.getElem_toArray, List.getElem_cons_succ, List.getElem_cons_zero]
              refine wpAnyH_take (i := 30) (v := undef) rfl (by kernel_rfl) (by kernel_rfl) (by kernel_rfl) (fun _ _ _ h => h) (Or.inr ⟨by kernel_rfl, rfl⟩) (by assumption) ?_
              try simp only [Act.put, List.setIfInBounds_toArray, List.set_cons_zero, List.set_cons_succ, List.getElem_toArray, List.getElem_cons_succ, List.getElem_cons_zero]
              refine wpAnyH_take (i := 31) (v := undef) rfl (by kernel_rfl) (by kernel_rfl) (by kernel_rfl) (fun _ _ _ h => h) (Or.inr ⟨by kernel_rfl, rfl⟩) (by assumption) ?_
              try simp only [Act.put, List.setIfInBounds_toArray, List.set_cons_zero, List.set_cons_succ, List.getElem_toArray, List.getElem_cons_succ, List.getElem_cons_zero]
              refine wpAnyH_take (i := 32) (v := undef) rfl (by kernel_rfl) (by kernel_rfl) (by kernel_rfl) (fun _ _ _ h => h) (Or.inr ⟨by kernel_rfl, rfl⟩) (by assumption) ?_
              try simp only [Act.put, List.setIfInBounds_toArray, List.set_cons_zero, List.set_cons_succ, List.getElem_toArray, List.getElem_cons_succ, List.getElem_cons_zero]
              refine wpAnyH_take (i := 33) (v := undef) rfl (by kernel_rfl) (by kernel_rfl) (by kernel_rfl) (fun _ _ _ h => h) (Or.inr ⟨by kernel_rfl, rfl⟩) (by assumption) ?_
              try simp only [Act.put, List.setIfInBounds_toArray, List.set_cons_zero, List.set_cons_succ, List.getElem_toArray, List.getElem_cons_succ, List.getElem_cons_zero]
              refine wpAnyH_take (i := 34) (v := undef) rfl (by kernel_rfl) (by kernel_rfl) (by kernel_rfl) (fun _ _ _ h => h) (Or.inr ⟨by kernel_rfl, rfl⟩) (by assumption) ?_
              try simp only [Act.put, List.setIfInBounds_toArray, List.set_cons_zero, List.set_cons_succ, List.getElem_toArray, List.getElem_cons_succ, List.getElem_cons_zero]
              refine wpAnyH_take (i := 35) (v := undef) rfl (by kernel_rfl) (by kernel_rfl) (by kernel_rfl) (fun _ _ _ h => h) (Or.inr ⟨by kernel_rfl, rfl⟩) (by assumption) ?_
              try simp only [Act.put, List.setIfInBounds_toArray, List.set_cons_zero, List.set_cons_succ, List.getElem_toArray, List.getElem_cons_succ, List.getElem_cons_zero]
              refine wpAnyH_take (i := 36) (v := undef) rfl (by kernel_rfl) (by kernel_rfl) (by kernel_rfl) (fun _ _ _ h => h) (Or.inr ⟨by kernel_rfl, rfl⟩) (by assumption) ?_
              try simp only [Act.put, List.setIfInBounds_toArray, List.set_cons_zero, List.set_cons_succ, List.getElem_toArray, List.getElem_cons_succ, List.getElem_cons_zero]
              refine wpAnyH_take (i := 37) (v := undef) rfl (by kernel_rfl) (by kernel_rfl) (by kernel_rfl) (fun _ _ _ h => h) (Or.inr ⟨by kernel_rfl, rfl⟩) (by assumption) ?_
              try simp only [Act.put, List.setIfInBounds_toArray, List.set_cons_zero, List.set_cons_succ, List.getElem_toArray, List.getElem_cons_succ, List.getElem_cons_zero]
              refine wpAnyH_take (i := 38) (v := undef) rfl (by kernel_rfl) (by kernel_rfl) (by kernel_rfl) (fun _ _ _ h => h) (Or.inr ⟨by kernel_rfl, rfl⟩) (by assumption) ?_
              try simp only [Act.put, List.setIfInBounds_toArray, List.set_cons_zero, List.set_cons_succ, List.getElem_toArray, List.getElem_cons_succ, List.getElem_cons_zero]
              refine wpAnyH_take (i := 39) (v := undef) rfl (by kernel_rfl) (by kernel_rfl) (by kernel_rfl) (fun _ _ _ h => h) (Or.inr ⟨by kernel_rfl, rfl⟩) (by assumption) ?_
              try simp only [Act.put, List.setIfInBounds_toArray, List.set_cons_zero, List.set_cons_succ, List.getElem_toArray, List.getElem_cons_succ, List.getElem_cons_zero]
              refine wpAnyH_take (i := 40) (v := undef) rfl (by kernel_rfl) (by kernel_rfl) (by kernel_rfl) (fun _ _ _ h => h) (Or.inr ⟨by kernel_rfl, rfl⟩) (by assumption) ?_
              try simp only [Act.put, List.setIfInBounds_toArray, List.set_cons_zero, List.set_cons_succ, List.getElem_toArray, List.getElem_cons_succ, List.getElem_cons_zero]
              refine wpAnyH_take (i := 41) (v := ?gv81) rfl (by kernel_rfl) (by kernel_rfl) (by kernel_rfl) (fun _ _ _ h => h) (Or.inl ⟨by kernel_rfl, ?gy81⟩) (by assumption) ?gr81
              case gy81 => (intro w' hSw; (try dsimp only at hSw); go_simp; (try with_reducible rfl))
              try simp only [Act.put, List.setIfInBounds_toArray, List.set_cons_zero, List.set_cons_succ, List.getElem_toArray, List.getElem_cons_succ, List.getElem_cons_zero]
              refine wpAnyH_take (i := 42) (v := ?gv82) rfl (by kernel_rfl) (by kernel_rfl) (by kernel_rfl) (fun _ _ _ h => h) (Or.inl ⟨by kernel_rfl, ?gy82⟩) (by assumption) ?gr82
              case gy82 => (intro w' hSw; (try dsimp only at hSw); go_simp; (try with_reducible rfl))
              try simp only [Act.put, List.setIfInBounds_toArray, List.set_cons_zero, List.set_cons_succ, List.getElem_toArray, List.getElem_cons_succ, List.getElem_cons_zero]
              refine wpAnyH_done (by kernel_rfl) (NoPanic.normal ?_) _
              go_wp2
              go_roundw
              case rel => exact ⟨0 + 1, by omega, by go_num, hnx, HBD⟩
              case measure => simp [intOf]; omega
            · obtain ⟨m, hm⟩ : ∃ m, k = m + 1 := ⟨k - 1, by omega⟩
              obtain ⟨b', off', r', hbo, _, hrm, hp⟩ := (HR.out.keep HBD.out).some (k := m) (by omega)
              simp only [Option.some.injEq, Addr.mk.injEq, and_true] at hbo
              obtain ⟨rfl, rfl⟩ := hbo
              have hp := hp.c0
              have hgm : (fs.getD (k - 1) ftZ).tm = r'.tm := by rw [hm]; simp [List.getD_eq_getElem?_getD, hrm]
              have hat := HAT.out
              rw [hgm, hok] at hat
              obtain ⟨y, hy⟩ : ∃ y, r'.tm = y := ⟨_, rfl⟩
              rw [hy] at hp hat
              have hm1 : (m : Int) < (n : Int) := by omega
              have hm0 : (0 : Int) ≤ (m : Int) := by omega
              have hwm : IntKind.i64.wrap (m : Int) = (m : Int) := wrap_small _ hm0 (by omega)
              have hk1 : (0 : Int) < (k : Int) := by omega
              have hkm : (k : Int) - 1 = (m : Int) := by omega
              have hkp : 0 < k := by omega
              have hkd : decide (0 < k) = true := by simp; omega
              by_cases hlt2 : y < t
              · have hnx : Hid _ := HYES.out (by rw [hat, decide_eq_true hlt2]; simp)
                have hge : ¬ t ≤ y := by omega
                have hgd : decide (t ≤ y) = false := by simp; omega
                have HM : Hid _ := hm
                clear HNO HYES HAT hat hgm hy hrm hok hm hk0 hlt2
                go_upto_region 4 with fail
                refine wp_region_noPanic ?_
                refine wp_region_held_drew (S := fun W : World => W.cell? ⟨b, off + k * 3, none⟩ = some (.int .i64 t) ∧ W.cell? ⟨b, off + k * 3 + 1, none⟩ = some (.int .i64 u) ∧ W.cell? ⟨b, off + k * 3 + 2, none⟩ = some (.int .i64 v) ∧ W.cell? ⟨b, off + m * 3, none⟩ = some (.int .i64 y)) (by kernel_rfl) (by go_keep) (fun hS => ?_)
                refine wpAnyH_take (i := 0) (v := ?gv83) rfl (by kernel_rfl) (by kernel_rfl) (by kernel_rfl) (fun _ _ _ h => h) (Or.inl ⟨by kernel_rfl, ?gy83⟩) (by assumption) ?gr83
                case gy83 => (intro w' hSw; (try dsimp only at hSw); go_simp; (try with_reducible rfl))
                try simp only [Act.put, List.setIfInBounds_toArray, List.set_cons_zero, List.set_cons_succ, List.getElem_toArray, List.getElem_cons_zero]
                refine wpAnyH_take (i := 1) (v := ?gv84) rfl (by kernel_rfl) (by kernel_rfl) (by kernel_rfl) (fun _ _ _ h => h) (Or.inl ⟨by kernel_rfl, ?gy84⟩) (by assumption) ?gr84
                case gy84 => (intro w' hSw; (try dsimp only at hSw); go_simp; (try with_reducible rfl))
                try simp only [Act.put, List.setIfInBounds_toArray, List.set_cons_zero, List.set_cons_succ, List.getElem_toArray, List.getElem_cons_succ, List.getElem_cons_zero]
                refine wpAnyH_take (i := 2) (v := ?gv85) rfl (by kernel_rfl) (by kernel_rfl) (by kernel_rfl) (fun _ _ _ h => h) (Or.inl ⟨by kernel_rfl, ?gy85⟩) (by assumption) ?gr85
                case gy85 => (intro w' hSw; (try dsimp only at hSw); go_simp; (try with_reducible rfl))
                try simp only [Act.put, List.setIfInBounds_toArray, List.set_cons_zero, List.set_cons_succ, List.getElem_toArray, List.getElem_cons_succ, List.getElem_cons_zero]
                refine wpAnyH_take (i := 3) (v := ?gv86) rfl (by kernel_rfl) (by kernel_rfl) (by kernel_rfl) (fun _ _ _ h => h) (Or.inl ⟨by kernel_rfl, ?gy86⟩) (by assumption) ?gr86
                case gy86 => (intro w' hSw; (try dsimp only at hSw); go_simp; (try with_reducible rfl))
                try simp only [Act.put, List.setIfInBounds_toArray, List.set_cons_zero, List.set_cons_succ, List.getElem_toArray, List.getElem_cons_succ, List.getElem_cons_zero]
                refine wpAnyH_take (i := 4) (v := ?gv87) rfl (by kernel_rfl) (by kernel_rfl) (by kernel_rfl) (fun _ _ _ h => h) (Or.inl ⟨by kernel_rfl, ?gy87⟩) (by assumption) ?gr87
                case gy87 => (intro w' hSw; (try dsimp only at hSw); go_simp; (try with_reducible rfl))
                try simp only [Act.put, List.setIfInBounds_toArray, List.set_cons_zero, List.set_cons_succ, List.getElem_toArray, List.getElem_cons_succ, List.getElem_cons_zero]
                refine wpAnyH_ready (rs := [5]) (by kernel_rfl) (by simp) ?_
                refine AllReadyH.cons rfl (fun K hK => ?_) AllReadyH.nil
                go_simp
                (with_reducible refine (hN _).mono ?_)
                rintro e u5 ⟨rfl, hu5⟩
                subst hu5
                clear hS
                dsimp only
                refine Shut.out hK _ _ (⟨x0, x1, x2, hp⟩) (fun hS => ?_)
                try simp only [Act.put, List.setIfInBounds_toArray, List.set_cons_zero, List.set_cons_succ, List.getElem_toArray, List.getElem_cons_succ, List.getElem_cons_zero]
                refine wpAnyH_take (i := 6) (v := ?gv88) rfl (by kernel_rfl) (by kernel_rfl) (by kernel_rfl) (fun _ _ _ h => h) (Or.inl ⟨by kernel_rfl, ?gy88⟩) (by assumption) ?gr88
                case gy88 => (intro w' hSw; (try dsimp only at hSw); go_simp; (try with_reducible rfl))
                try simp only [Act.put, List.setIfInBounds_toArray, List.set_cons_zero, List.set_cons_succ, List.getElem_toArray, List.getElem_cons_succ, List.getElem_cons_zero]
                refine wpAnyH_take (i := 7) (v := ?gv89) rfl (by kernel_rfl) (by kernel_rfl) (by kernel_rfl) (fun _ _ _ h => h) (Or.inl ⟨by kernel_rfl, ?gy89⟩) (by assumption) ?gr89
                case gy89 => (intro w' hSw; (try dsimp only at hSw); go_simp; (try with_reducible rfl))
                try simp only [Act.put, List.setIfInBounds_toArray, List.set_cons_zero, List.set_cons_succ, List.getElem_toArray, List.getElem_cons_succ, List.getElem_cons_zero]
                refine wpAnyH_take (i := 8) (v := ?gv90) rfl (by kernel_rfl) (by kernel_rfl) (by kernel_rfl) (fun _ _ _ h => h) (Or.inl ⟨by kernel_rfl, ?gy90⟩) (by assumption) ?gr90
                case gy90 => (intro w' hSw; (try dsimp only at hSw); go_simp; (try with_reducible rfl))
                try simp only [Act.put, List.setIfInBounds_toArray, List.set_cons_zero, List.set_cons_succ, List.getElem_toArray, List.getElem_cons_succ, List.getElem_cons_zero]
                refine wpAnyH_take (i := 9) (v := ?gv91) rfl (by kernel_rfl) (by kernel_rfl) (by kernel_rfl) (fun _ _ _ h => h) (Or.inl ⟨by kernel_rfl, ?gy91⟩) (by assumption) ?gr91
                case gy91 => (intro w' hSw; (try dsimp only at hSw); go_simp; (try with_reducible rfl))
                try simp only [Act.put, List.setIfInBounds_toArray, List.set_cons_zero, List.set_cons_succ, List.getElem_toArray, List.getElem_cons_succ, List.getElem_cons_zero]
                refine wpAnyH_take (i := 10) (v := ?gv92) rfl (by kernel_rfl) (by kernel_rfl) (by kernel_rfl) (fun _ _ _ h => h) (Or.inl ⟨by kernel_rfl, ?gy92⟩) (by assumption) ?gr92
                case gy92 => (intro w' hSw; (try dsimp only at hSw); go_simp; (try with_reducible rfl))
                try simp only [Act.put, List.setIfInBounds_toArray, List.set_cons_zero, List.set_cons_succ, List.getElem_toArray, List.getElem_cons_succ, List.getElem_cons_zero]
                refine wpAnyH_take (i := 11) (v := ?gv93) rfl (by kernel_rfl) (by kernel_rfl) (by kernel_rfl) (fun _ _ _ h => h) (Or.inl ⟨by kernel_rfl, ?gy93⟩) (by assumption) ?gr93
                case gy93 => (intro w' hSw; (try dsimp only at hSw); go_simp; (try with_reducible rfl))
                try simp only [Act.put, List.setIfInBounds_toArray, List.set_cons_zero, List.set_cons_succ, List.getElem_toArray, List.getElem_cons_succ, List.getElem_cons_zero]
                refine wpAnyH_take (i := 12) (v := ?gv94) rfl (by kernel_rfl) (by kernel_rfl) (by kernel_rfl) (fun _ _ _ h => h) (Or.inl ⟨by kernel_rfl, ?gy94⟩) (by assumption) ?gr94
                case gy94 => (intro w' hSw; (try dsimp only at hSw); go_simp; (try with_reducible rfl))
                try simp only [Act.put, List.setIfInBounds_toArray, List.set_cons_zero, List.set_cons_succ, List.getElem_toArray, List.getElem_cons_succ, List.getElem_cons_zero]
                refine wpAnyH_ready (rs := [13]) (by kernel_rfl) (by simp) ?_
                refine AllReadyH.cons rfl (fun K hK => ?_) AllReadyH.nil
                go_simp
                (with_reducible refine (hL _).mono ?_)
                rintro e u13 ⟨rfl, hu13⟩
                subst hu13
                clear hS
                dsimp only
                refine Shut.out hK _ _ (⟨x0, x1, x2, hp⟩) (fun hS => ?_)
                try simp only [Act.put, List.setIfInBounds_toArray, List.set_cons_zero, List.set_cons_succ, List.getElem_toArray, List.getElem_cons_succ, List.getElem_cons_zero]
                refine wpAnyH_take (i := 14) (v := ?gv95) rfl (by kernel_rfl) (by kernel_rfl) (by kernel_rfl) (fun _ _ _ h => h) (Or.inl ⟨by kernel_rfl, ?gy95⟩) (by assumption) ?gr95
                case gy95 => (intro w' hSw; (try dsimp only at hSw); go_simp; (try with_reducible rfl))
                try simp only [Act.put, List.setIfInBounds_toArray, List.set_cons_zero, List.set_cons_succ, List.getElem_toArray, List.getElem_cons_succ, List.getElem_cons_zero]
                refine wpAnyH_take (i := 15) (v := ?gv96) rfl (by kernel_rfl) (by kernel_rfl) (by kernel_rfl) (fun _ _ _ h => h) (Or.inl ⟨by kernel_rfl, ?gy96⟩) (by assumption) ?gr96
                case gy96 => (intro w' hSw; (try dsimp only at hSw); go_simp; (try with_reducible rfl))
                try simp only [Act.put, List.setIfInBounds_toArray, List.set_cons_zero, List.set_cons_succ, List.getElem_toArray, List.getElem_cons_succ, List.getElem_cons_zero]
                refine wpAnyH_take (i := 16) (v := ?gv97) rfl (by kernel_rfl) (by kernel_rfl) (by kernel_rfl) (fun _ _ _ h => h) (Or.inl ⟨by kernel_rfl, ?gy97⟩) (by assumption) ?gr97
                case gy97 => (intro w' hSw; (try dsimp only at hSw); go_simp; (try with_reducible rfl))
                try simp only [Act.put, List.setIfInBounds_toArray, List.set_cons_zero, List.set_cons_succ, List.getElem_toArray, List.getElem_cons_succ, List.getElem_cons_zero]
                refine wpAnyH_take (i := 17) (v := ?gv98) rfl (by kernel_rfl) (by kernel_rfl) (by kernel_rfl) (fun _ _ _ h => h) (Or.inl ⟨by kernel_rfl, ?gy98⟩) (by assumption) ?gr98
                case gy98 => (intro w' hSw; (try dsimp only at hSw); go_simp; (try with_reducible rfl))
                try simp only [Act.put, List.setIfInBounds_toArray, List.set_cons_zero, List.set_cons_succ, List.getElem_toArray, List.getElem_cons_succ, List.getElem_cons_zero]
                refine wpAnyH_take (i := 18) (v := ?gv99) rfl (by kernel_rfl) (by kernel_rfl) (by kernel_rfl) (fun _ _ _ h => h) (Or.inl ⟨by kernel_rfl, ?gy99⟩) (by assumption) ?gr99
                case gy99 => (intro w' hSw; (try dsimp only at hSw); go_simp; (try with_reducible rfl))
                try simp only [Act.put, List.setIfInBounds_toArray, List.set_cons_zero, List.set_cons_succ, List.getElem_toArray, List.getElem_cons_succ, List.getElem_cons_zero]
                refine wpAnyH_take (i := 19) (v := ?gv100) rfl (by kernel_rfl) (by kernel_rfl) (by kernel_rfl) (fun _ _ _ h => h) (Or.inl ⟨by kernel_rfl, ?gy100⟩) (by assumption) ?gr100
                case gy100 => (intro w' hSw; (try dsimp only at hSw); go_simp; (try with_reducible rfl))
                try simp only [Act.put, List.setIfInBounds_toArray, List.set_cons_zero, List.set_cons_succ, List.getElem_toArray, List.getElem_cons_succ, List.getElem_cons_zero]
                refine wpAnyH_take (i := 20) (v := ?gv101) rfl (by kernel_rfl) (by kernel_rfl) (by kernel_rfl) (fun _ _ _ h => h) (Or.inl ⟨by kernel_rfl, ?gy101⟩) (by assumption) ?gr101
                case gy101 => (intro w' hSw; (try dsimp only at hSw); go_simp; (try with_reducible rfl))
                try simp only [Act.put, List.setIfInBounds_toArray, List.set_cons_zero, List.set_cons_succ, List.getElem_toArray, List.getElem_cons_succ, List.getElem_cons_zero]
                refine wpAnyH_take (i := 21) (v := ?gv102) rfl (by kernel_rfl) (by kernel_rfl) (by kernel_rfl) (fun _ _ _ h => h) (Or.inl ⟨by kernel_rfl, ?gy102⟩) (by assumption) ?gr102
                case gy102 => (intro w' hSw; (try dsimp only at hSw); go_simp; (try with_reducible rfl))
                try simp only [Act.put, List.setIfInBounds_toArray, List.set_cons_zero, List.set_cons_succ, List.getElem_toArray, List.getElem_cons_succ, List.getElem_cons_zero]
                refine wpAnyH_ready (rs := [22]) (by kernel_rfl) (by simp) ?_
                refine AllReadyH.cons rfl (fun K hK => ?_) AllReadyH.nil
                go_simp
                (with_reducible refine (hM _).mono ?_)
                rintro e u22 ⟨rfl, hu22⟩
                subst hu22
                clear hS
                dsimp only
                refine Shut.out hK _ _ (⟨x0, x1, x2, hp⟩) (fun hS => ?_)
                try simp only [Act.put, List.setIfInBounds_toArray, List.set_cons_zero, List.set_cons_succ, List.getElem_toArray, List.getElem_cons_succ, List.getElem_cons_zero]
                refine wpAnyH_take (i := 23) (v := ?gv103) rfl (by kernel_rfl) (by kernel_rfl) (by kernel_rfl) (fun _ _ _ h => h) (Or.inl ⟨by kernel_rfl, ?gy103⟩) (by assumption) ?gr103
                case gy103 => (intro w' hSw; (try dsimp only at hSw); go_simp; (try with_reducible rfl))
                try simp only [Act.put, List.setIfInBounds_toArray, List.set_cons_zero, List.set_cons_succ, List.getElem_toArray, List.getElem_cons_succ, List.getElem_cons_zero]
                refine wpAnyH_take (i := 24) (v := ?gv104) rfl (by kernel_rfl) (by kernel_rfl) (by kernel_rfl) (fun _ _ _ h => h) (Or.inl ⟨by kernel_rfl, ?gy104⟩) (by assumption) ?gr104
                case gy104 => (intro w' hSw; (try dsimp only at hSw); go_simp; (try with_reducible rfl))
                try simp only [Act.put, List.setIfInBounds_toArray, List.set_cons_zero, List.set_cons_succ, List.getElem_toArray, List.getElem_cons_succ, List.getElem_cons_zero]
                refine wpAnyH_take (i := 25) (v := ?gv105) rfl (by kernel_rfl) (by kernel_rfl) (by kernel_rfl) (fun _ _ _ h => h) (Or.inl ⟨by kernel_rfl, ?gy105⟩) (by assumption) ?gr105
                case gy105 => (intro w' hSw; (try dsimp only at hSw); go_simp; (try with_reducible rfl))
                try simp only [Act.put, List.setIfInBounds_toArray, List.set_cons_zero, List.set_cons_succ, List.getElem_toArray, List.getElem_cons_succ, List.getElem_cons_zero]
                refine wpAnyH_take (i := 26) (v := ?gv106) rfl (by kernel_rfl) (by kernel_rfl) (by kernel_rfl) (fun _ _ _ h => h) (Or.inl ⟨by kernel_rfl, ?gy106⟩) (by assumption) ?gr106
                case gy106 => (intro w' hSw; (try dsimp only at hSw); go_simp; (try with_reducible rfl))
                try simp only [Act.put, List.setIfInBounds_toArray, List.set_cons_zero, List.set_cons_succ, List.getElem_toArray, List.getElem_cons_succ, List.getElem_cons_zero]
                refine wpAnyH_take (i := 27) (v := ?gv107) rfl (by kernel_rfl) (by kernel_rfl) (by kernel_rfl) (fun _ _ _ h => h) (Or.inl ⟨by kernel_rfl, ?gy107⟩) (by assumption) ?gr107
                case gy107 => (intro w' hSw; (try dsimp only at hSw); go_simp; (try with_reducible rfl))
                try simp only [Act.put, List.setIfInBounds_toArray, List.set_cons_zero, List.set_cons_succ, List.getElem_toArray, List.getElem_cons_succ, List.getElem_cons_zero]
                refine wpAnyH_take (i := 28) (v := ?gv108) rfl (by kernel_rfl) (by kernel_rfl) (by kernel_rfl) (fun _ _ _ h => h) (Or.inl ⟨by kernel_rfl, ?gy108⟩) (by assumption) ?gr108
                case gy108 => (intro w' hSw; (try dsimp only at hSw); go_simp; (try with_reducible rfl))
                try simp only [Act.put, List.setIfInBounds_toArray, List.set_cons_zero, List.set_cons_succ, List.getElem_toArray, List.getElem_cons_succ, List.getElem_cons_zero]
                refine wpAnyH_take (i := 29) (v := ?gv109) rfl (by kernel_rfl) (by kernel_rfl) (by kernel_rfl) (fun _ _ _ h => h) (Or.inl ⟨by kernel_rfl, ?gy109⟩) (by assumption) ?gr109
                case gy109 => (intro w' hSw; (try dsimp only at hSw); go_simp; (try with_reducible rfl))
                try simp only [Act.put, List.setIfInBounds_toArray, List.set_cons_zero, List.set_cons_succ, List.getElem_toArray, List.getElem_cons_succ, List.getElem_cons_zero]
                refine wpAnyH_take (i := 30) (v := ?gv110) rfl (by kernel_rfl) (by kernel_rfl) (by kernel_rfl) (fun _ _ _ h => h) (Or.inl ⟨by kernel_rfl, ?gy110⟩) (by assumption) ?gr110
                case gy110 => (intro w' hSw; (try dsimp only at hSw); go_simp; (try with_reducible rfl))
                try simp only [Act.put, List.setIfInBounds_toArray, List.set_cons_zero, List.set_cons_succ, List.getElem_toArray, List.getElem_cons_succ, List.getElem_cons_zero]
                refine wpAnyH_take (i := 31) (v := ?gv111) rfl (by kernel_rfl) (by kernel_rfl) (by kernel_rfl) (fun _ _ _ h => h) (Or.inl ⟨by kernel_rfl, ?gy111⟩) (by assumption) ?gr111
                case gy111 => (intro w' hSw; (try dsimp only at hSw); go_simp; (try with_reducible rfl))
                try simp only [Act.put, List.setIfInBounds_toArray, List.set_cons_zero, List.set_cons_succ, List.getElem_toArray, List.getElem_cons_succ, List.getElem_cons_zero]
                refine wpAnyH_take (i := 32) (v := ?gv112) rfl (by kernel_rfl) (by kernel_rfl) (by kernel_rfl) (fun _ _ _ h => h) (Or.inl ⟨by kernel_rfl, ?gy112⟩) (by assumption) ?gr112
                case gy112 => (intro w' hSw; (try dsimp only at hSw); go_simp; (try with_reducible rfl))
                try simp only [Act.put, List.setIfInBounds_toArray, List.set_cons_zero, List.set_cons_succ, List.getElem_toArray, List.getElem_cons_succ, List.getElem_cons_zero]
                refine wpAnyH_take (i := 33) (v := ?gv113) rfl (by kernel_rfl) (by kernel_rfl) (by kernel_rfl) (fun _ _ _ h => h) (Or.inl ⟨by kernel_rfl, ?gy113⟩) (by assumption) ?gr113
                case gy113 => (intro w' hSw; (try dsimp only at hSw); go_simp; (try with_reducible rfl))
                try simp only [Act.put, List.setIfInBounds_toArray, List.set_cons_zero, List.set_cons_succ, List.getElem_toArray, List.getElem_cons_succ, List.getElem_cons_zero]
                refine wpAnyH_take (i := 34) (v := ?gv114) rfl (by kernel_rfl) (by kernel_rfl) (by kernel_rfl) (fun _ _ _ h => h) (Or.inl ⟨by kernel_rfl, ?gy114⟩) (by assumption) ?gr114
                case gy114 => (intro w' hSw; (try dsimp only at hSw); go_simp; (try with_reducible rfl))
                try simp only [Act.put, List.setIfInBounds_toArray, List.set_cons_zero, List.set_cons_succ, List.getElem_toArray, List.getElem_cons_succ, List.getElem_cons_zero]
                refine wpAnyH_take (i := 35) (v := ?gv115) rfl (by kernel_rfl) (by kernel_rfl) (by kernel_rfl) (fun _ _ _ h => h) (Or.inl ⟨by kernel_rfl, ?gy115⟩) (by assumption) ?gr115
                case gy115 => (intro w' hSw; (try dsimp only at hSw); go_simp; (try with_reducible rfl))
                try simp only [Act.put, List.setIfInBounds_toArray, List.set_cons_zero, List.set_cons_succ, List.getElem_toArray, List.getElem_cons_succ, List.getElem_cons_zero]
                refine wpAnyH_take (i := 36) (v := ?gv116) rfl (by kernel_rfl) (by kernel_rfl) (by kernel_rfl) (fun _ _ _ h => h) (Or.inl ⟨by kernel_rfl, ?gy116⟩) (by assumption) ?gr116
                case gy116 => (intro w' hSw; (try dsimp only at hSw); go_simp; (try with_reducible rfl))
                try simp only [Act.put, List.setIfInBounds_toArray, List.set_cons_zero, List.set_cons_succ, List.getElem_toArray, List.getElem_cons_succ, List.getElem_cons_zero]
                refine wpAnyH_take (i := 37) (v := ?gv117) rfl (by kernel_rfl) (by kernel_rfl) (by kernel_rfl) (fun _ _ _ h => h) (Or.inl ⟨by kernel_rfl, ?gy117⟩) (by assumption) ?gr117
                case gy117 => (intro w' hSw; (try dsimp only at hSw); go_simp; (try with_reducible rfl))
                try simp only [Act.put, List.setIfInBounds_toArray, List.set_cons_zero, List.set_cons_succ, List.getElem_toArray, List.getElem_cons_succ, List.getElem_cons_zero]
                refine wpAnyH_take (i := 38) (v := ?gv118) rfl (by kernel_rfl) (by kernel_rfl) (by kernel_rfl) (fun _ _ _ h => h) (Or.inl ⟨by kernel_rfl, ?gy118⟩) (by assumption) ?gr118
                case gy118 => (intro w' hSw; (try dsimp only at hSw); go_simp; (try with_reducible rfl))
                try simp only [Act.put, List.setIfInBounds_toArray, List.set_cons_zero, List.set_cons_succ, List.getElem_toArray, List.getElem_cons_succ, List.getElem_cons_zero]
                refine wpAnyH_take (i := 39) (v := ?gv119) rfl (by kernel_rfl) (by kernel_rfl) (by kernel_rfl) (fun _ _ _ h => h) (Or.inl ⟨by kernel_rfl, ?gy119⟩) (by assumption) ?gr119
                case gy119 => (intro w' hSw; (try dsimp only at hSw); go_simp; (try with_reducible rfl))
                try simp only [Act.put, List.setIfInBounds_toArray, List.set_cons_zero, List.set_cons_succ, List.getElem_toArray, List.getElem_cons_succ, List.getElem_cons_zero]
                refine wpAnyH_take (i := 40) (v := ?gv120) rfl (by kernel_rfl) (by kernel_rfl) (by kernel_rfl) (fun _ _ _ h => h) (Or.inl ⟨by kernel_rfl, ?gy120⟩) (by assumption) ?gr120
                case gy120 => (intro w' hSw; (try dsimp only at hSw); go_simp; (try with_reducible rfl))
                try simp only [Act.put, List.setIfInBounds_toArray, List.set_cons_zero, List.set_cons_succ, List.getElem_toArray, List.getElem_cons_succ, List.getElem_cons_zero]
                refine wpAnyH_take (i := 41) (v := ?gv121) rfl (by kernel_rfl) (by kernel_rfl) (by kernel_rfl) (fun _ _ _ h => h) (Or.inl ⟨by kernel_rfl, ?gy121⟩) (by assumption) ?gr121
                case gy121 => (intro w' hSw; (try dsimp only at hSw); go_simp; (try with_reducible rfl))
                try simp only [Act.put, List.setIfInBounds_toArray, List.set_cons_zero, List.set_cons_succ, List.getElem_toArray, List.getElem_cons_succ, List.getElem_cons_zero]
                refine wpAnyH_take (i := 42) (v := ?gv122) rfl (by kernel_rfl) (by kernel_rfl) (by kernel_rfl) (fun _ _ _ h => h) (Or.inl ⟨by kernel_rfl, ?gy122⟩) (by assumption) ?gr122
                case gy122 => (intro w' hSw; (try dsimp only at hSw); go_simp; (try with_reducible rfl))
                try simp only [Act.put, List.setIfInBounds_toArray, List.set_cons_zero, List.set_cons_succ, List.getElem_toArray, List.getElem_cons_succ, List.getElem_cons_zero]
                refine wpAnyH_done (by kernel_rfl) (NoPanic.normal ?_) _
                go_wp2
                go_roundw
                case rel => exact ⟨k + 1, by omega, by go_num, hnx, HBD⟩
                case measure => simp [intOf]; omega
              · have hfin : Hid (faultsB fs = false) := HNO.out (by rw [hat, decide_eq_false hlt2]; simp [hk0])
                have hge : t ≤ y := by omega
                have hgd : decide (t ≤ y) = true := by simp; omega
                have HM : Hid _ := hm
                clear HNO HYES HAT hat hgm hy hrm hok hm hk0 hlt2
                go_upto_region 4 with fail
                refine wp_region_noPanic ?_
                refine wp_region_held_drew (S := fun W : World => W.cell? ⟨b, off + k * 3, none⟩ = some (.int .i64 t) ∧ W.cell? ⟨b, off + k * 3 + 1, none⟩ = some (.int .i64 u) ∧ W.cell? ⟨b, off + k * 3 + 2, none⟩ = some (.int .i64 v) ∧ W.cell? ⟨b, off + m * 3, none⟩ = some (.int .i64 y)) (by kernel_rfl) (by go_keep) (fun hS => ?_)
                refine wpAnyH_take (i := 0) (v := ?gv123) rfl (by kernel_rfl) (by kernel_rfl) (by kernel_rfl) (fun _ _ _ h => h) (Or.inl ⟨by kernel_rfl, ?gy123⟩) (by assumption) ?gr123
                case gy123 => (intro w' hSw; (try dsimp only at hSw); go_simp; (try with_reducible rfl))
                try simp only [Act.put, List.setIfInBounds_toArray, List.set_cons_zero, List.set_cons_succ, List.getElem_toArray, List.getElem_cons_zero]
                refine wpAnyH_take (i := 1) (v := ?gv124) rfl (by kernel_rfl) (by kernel_rfl) (by kernel_rfl) (fun _ _ _ h => h) (Or.inl ⟨by kernel_rfl, ?gy124⟩) (by assumption) ?gr124
                case gy124 => (intro w' hSw; (try dsimp only at hSw); go_simp; (try with_reducible rfl))
                try simp only [Act.put, List.setIfInBounds_toArray, List.set_cons_zero, List.set_cons_succ, List.getElem_toArray, List.getElem_cons_succ, List.getElem_cons_zero]
                refine wpAnyH_take (i := 2) (v := ?gv125) rfl (by kernel_rfl) (by kernel_rfl) (by kernel_rfl) (fun _ _ _ h => h) (Or.inl ⟨by kernel_rfl, ?gy125⟩) (by assumption) ?gr125
                case gy125 => (intro w' hSw; (try dsimp only at hSw); go_simp; (try with_reducible rfl))
                try simp only [Act.put, List.setIfInBounds_toArray, List.set_cons_zero, List.set_cons_succ, List.getElem_toArray, List.getElem_cons_succ, List.getElem_cons_zero]
                refine wpAnyH_take (i := 3) (v := ?gv126) rfl (by kernel_rfl) (by kernel_rfl) (by kernel_rfl) (fun _ _ _ h => h) (Or.inl ⟨by kernel_rfl, ?gy126⟩) (by assumption) ?gr126
                case gy126 => (intro w' hSw; (try dsimp only at hSw); go_simp; (try with_reducible rfl))
                try simp only [Act.put, List.setIfInBounds_toArray, List.set_cons_zero, List.set_cons_succ, List.getElem_toArray, List.getElem_cons_succ, List.getElem_cons_zero]
                refine wpAnyH_take (i := 4) (v := ?gv127) rfl (by kernel_rfl) (by kernel_rfl) (by kernel_rfl) (fun _ _ _ h => h) (Or.inl ⟨by kernel_rfl, ?gy127⟩) (by assumption) ?gr127
                case gy127 => (intro w' hSw; (try dsimp only at hSw); go_simp; (try with_reducible rfl))
                try simp only [Act.put, List.setIfInBounds_toArray, List.set_cons_zero, List.set_cons_succ, List.getElem_toArray, List.getElem_cons_succ, List.getElem_cons_zero]
                refine wpAnyH_ready (rs := [5]) (by kernel_rfl) (by simp) ?_
                refine AllReadyH.cons rfl (fun K hK => ?_) AllReadyH.nil
                go_simp
                (with_reducible refine (hN _).mono ?_)
                rintro e u5 ⟨rfl, hu5⟩
                subst hu5
                clear hS
                dsimp only
                refine Shut.out hK _ _ (⟨x0, x1, x2, hp⟩) (fun hS => ?_)
                try simp only [Act.put, List.setIfInBounds_toArray, List.set_cons_zero, List.set_cons_succ, List.getElem_toArray, List.getElem_cons_succ, List.getElem_cons_zero]
                refine wpAnyH_take (i := 6) (v := ?gv128) rfl (by kernel_rfl) (by kernel_rfl) (by kernel_rfl) (fun _ _ _ h => h) (Or.inl ⟨by kernel_rfl, ?gy128⟩) (by assumption) ?gr128
                case gy128 => (intro w' hSw; (try dsimp only at hSw); go_simp; (try with_reducible rfl))
                try simp only [Act.put, List.setIfInBounds_toArray, List.set_cons_zero, List.set_cons_succ, List.getElem_toArray, List.getElem_cons_succ, List.getElem_cons_zero]
                refine wpAnyH_take (i := 7) (v := ?gv129) rfl (by kernel_rfl) (by kernel_rfl) (by kernel_rfl) (fun _ _ _ h => h) (Or.inl ⟨by kernel_rfl, ?gy129⟩) (by assumption) ?gr129
                case gy129 => (intro w' hSw; (try dsimp only at hSw); go_simp; (try with_reducible rfl))
                try simp only [Act.put, List.setIfInBounds_toArray, List.set_cons_zero, List.set_cons_succ, List.getElem_toArray, List.getElem_cons_succ, List.getElem_cons_zero]
                refine wpAnyH_take (i := 8) (v := ?gv130) rfl (by kernel_rfl) (by kernel_rfl) (by kernel_rfl) (fun _ _ _ h => h) (Or.inl ⟨by kernel_rfl, ?gy130⟩) (by assumption) ?gr130
                case gy130 => (intro w' hSw; (try dsimp only at hSw); go_simp; (try with_reducible rfl))
                try simp only [Act.put, List.setIfInBounds_toArray, List.set_cons_zero, List.set_cons_succ, List.getElem_toArray, List.getElem_cons_succ, List.getElem_cons_zero]
                refine wpAnyH_take (i := 9) (v := ?gv131) rfl (by kernel_rfl) (by kernel_rfl) (by kernel_rfl) (fun _ _ _ h => h) (Or.inl ⟨by kernel_rfl, ?gy131⟩) (by assumption) ?gr131
                case gy131 => (intro w' hSw; (try dsimp only at hSw); go_simp; (try with_reducible rfl))
                try simp only [Act.put, List.setIfInBounds_toArray, List.set_cons_zero, List.set_cons_succ, List.getElem_toArray, List.getElem_cons_succ, List.getElem_cons_zero]
                refine wpAnyH_take (i := 10) (v := ?gv132) rfl (by kernel_rfl) (by kernel_rfl) (by kernel_rfl) (fun _ _ _ h => h) (Or.inl ⟨by kernel_rfl, ?gy132⟩) (by assumption) ?gr132
                case gy132 => (intro w' hSw; (try dsimp only at hSw); go_simp; (try with_reducible rfl))
                try simp only [Act.put, List.setIfInBounds_toArray, List.set_cons_zero, List.set_cons_succ, List.getElem_toArray, List.getElem_cons_succ, List.getElem_cons_zero]
                refine wpAnyH_take (i := 11) (v := ?gv133) rfl (by kernel_rfl) (by kernel_rfl) (by kernel_rfl) (fun _ _ _ h => h) (Or.inl ⟨by kernel_rfl, ?gy133⟩) (by assumption) ?gr133
                case gy133 => (intro w' hSw; (try dsimp only at hSw); go_simp; (try with_reducible rfl))
                try simp only [Act.put, List.setIfInBounds_toArray, List.set_cons_zero, List.set_cons_succ, List.getElem_toArray, List.getElem_cons_succ, List.getElem_cons_zero]
                refine wpAnyH_take (i := 12) (v := ?gv134) rfl (by kernel_rfl) (by kernel_rfl) (by kernel_rfl) (fun _ _ _ h => h) (Or.inl ⟨by kernel_rfl, ?gy134⟩) (by assumption) ?gr134
                case gy134 => (intro w' hSw; (try dsimp only at hSw); go_simp; (try with_reducible rfl))
                try simp only [Act.put, List.setIfInBounds_toArray, List.set_cons_zero, List.set_cons_succ, List.getElem_toArray, List.getElem_cons_succ, List.getElem_cons_zero]
                refine wpAnyH_ready (rs := [13]) (by kernel_rfl) (by simp) ?_
                refine AllReadyH.cons rfl (fun K hK => ?_) AllReadyH.nil
                go_simp
                (with_reducible refine (hL _).mono ?_)
                rintro e u13 ⟨rfl, hu13⟩
                subst hu13
                clear hS
                dsimp only
                refine Shut.out hK _ _ (⟨x0, x1, x2, hp⟩) (fun hS => ?_)
                try simp only [Act.put, List.setIfInBounds_toArray, List.set_cons_zero, List.set_cons_succ, List.getElem_toArray, List.getElem_cons_succ, List.getElem_cons_zero]
                refine wpAnyH_take (i := 14) (v := ?gv135) rfl (by kernel_rfl) (by kernel_rfl) (by kernel_rfl) (fun _ _ _ h => h) (Or.inl ⟨by kernel_rfl, ?gy135⟩) (by assumption) ?gr135
                case gy135 => (intro w' hSw; (try dsimp only at hSw); go_simp; (try with_reducible rfl))
                try simp only [Act.put, List.setIfInBounds_toArray, List.set_cons_zero, List.set_cons_succ, List.getElem_toArray, List.getElem_cons_succ, List.getElem_cons_zero]
                refine wpAnyH_take (i := 15) (v := ?gv136) rfl (by kernel_rfl) (by kernel_rfl) (by kernel_rfl) (fun _ _ _ h => h) (Or.inl ⟨by kernel_rfl, ?gy136⟩) (by assumption) ?gr136
                case gy136 => (intro w' hSw; (try dsimp only at hSw); go_simp; (try with_reducible rfl))
                try simp only [Act.put, List.setIfInBounds_toArray, List.set_cons_zero, List.set_cons_succ, List.getElem_toArray, List.getElem_cons_succ, List.getElem_cons_zero]
                refine wpAnyH_take (i := 16) (v := ?gv137) rfl (by kernel_rfl) (by kernel_rfl) (by kernel_rfl) (fun _ _ _ h => h) (Or.inl ⟨by kernel_rfl, ?gy137⟩) (by assumption) ?gr137
                case gy137 => (intro w' hSw; (try dsimp only at hSw); go_simp; (try with_reducible rfl))
                try simp only [Act.put, List.setIfInBounds_toArray, List.set_cons_zero, List.set_cons_succ, List.getElem_toArray, List.getElem_cons_succ, List.getElem_cons_zero]
                refine wpAnyH_take (i := 17) (v := ?gv138) rfl (by kernel_rfl) (by kernel_rfl) (by kernel_rfl) (fun _ _ _ h => h) (Or.inl ⟨by kernel_rfl, ?gy138⟩) (by assumption) ?gr138
                case gy138 => (intro w' hSw; (try dsimp only at hSw); go_simp; (try with_reducible rfl))
                try simp only [Act.put, List.setIfInBounds_toArray, List.set_cons_zero, List.set_cons_succ, List.getElem_toArray, List.getElem_cons_succ, List.getElem_cons_zero]
                refine wpAnyH_take (i := 18) (v := ?gv139) rfl (by kernel_rfl) (by kernel_rfl) (by kernel_rfl) (fun _ _ _ h => h) (Or.inl ⟨by kernel_rfl, ?gy139⟩) (by assumption) ?gr139
                case gy139 => (intro w' hSw; (try dsimp only at hSw); go_simp; (try with_reducible rfl))
                try simp only [Act.put, List.setIfInBounds_toArray, List.set_cons_zero, List.set_cons_succ, List.getElem_toArray, List.getElem_cons_succ, List.getElem_cons_zero]
                refine wpAnyH_take (i := 19) (v := ?gv140) rfl (by kernel_rfl) (by kernel_rfl) (by kernel_rfl) (fun _ _ _ h => h) (Or.inl ⟨by kernel_rfl, ?gy140⟩) (by assumption) ?gr140
                case gy140 => (intro w' hSw; (try dsimp only at hSw); go_simp; (try with_reducible rfl))
                try simp only [Act.put, List.setIfInBounds_toArray, List.set_cons_zero, List.set_cons_succ, List.getElem_toArray, List.getElem_cons_succ, List.getElem_cons_zero]
                refine wpAnyH_take (i := 20) (v := ?gv141) rfl (by kernel_rfl) (by kernel_rfl) (by kernel_rfl) (fun _ _ _ h => h) (Or.inl ⟨by kernel_rfl, ?gy141⟩) (by assumption) ?gr141
                case gy141 => (intro w' hSw; (try dsimp only at hSw); go_simp; (try with_reducible rfl))
                try simp only [Act.put, List.setIfInBounds_toArray, List.set_cons_zero, List.set_cons_succ, List.getElem_toArray, List.getElem_cons_succ, List.getElem_cons_zero]
                refine wpAnyH_take (i := 21) (v := ?gv142) rfl (by kernel_rfl) (by kernel_rfl) (by kernel_rfl) (fun _ _ _ h => h) (Or.inl ⟨by kernel_rfl, ?gy142⟩) (by assumption) ?gr142
                case gy142 => (intro w' hSw; (try dsimp only at hSw); go_simp; (try with_reducible rfl))
                try simp only [Act.put, List.setIfInBounds_toArray, List.set_cons_zero, List.set_cons_succ, List.getElem_toArray, List.getElem_cons_succ, List.getElem_cons_zero]
                refine wpAnyH_ready (rs := [22]) (by kernel_rfl) (by simp) ?_
                refine AllReadyH.cons rfl (fun K hK => ?_) AllReadyH.nil
                go_simp
                (with_reducible refine (hM _).mono ?_)
                rintro e u22 ⟨rfl, hu22⟩
                subst hu22
                clear hS
                dsimp only
                refine Shut.out hK _ _ (⟨x0, x1, x2, hp⟩) (fun hS => ?_)
                try simp only [Act.put, List.setIfInBounds_toArray, List.set_cons_zero, List.set_cons_succ, List.getElem_toArray, List.getElem_cons_succ, List.getElem_cons_zero]
                refine wpAnyH_take (i := 23) (v := ?gv143) rfl (by kernel_rfl) (by kernel_rfl) (by kernel_rfl) (fun _ _ _ h => h) (Or.inl ⟨by kernel_rfl, ?gy143⟩) (by assumption) ?gr143
                case gy143 => (intro w' hSw; (try dsimp only at hSw); go_simp; (try with_reducible rfl))
                try simp only [Act.put, List.setIfInBounds_toArray, List.set_cons_zero, List.set_cons_succ, List.getElem_toArray, List.getElem_cons_succ, List.getElem_cons_zero]
                refine wpAnyH_take (i := 24) (v := ?gv144) rfl (by kernel_rfl) (by kernel_rfl) (by kernel_rfl) (fun _ _ _ h => h) (Or.inl ⟨by kernel_rfl, ?gy144⟩) (by assumption) ?gr144
                case gy144 => (intro w' hSw; (try dsimp only at hSw); go_simp; (try with_reducible rfl))
                try simp only [Act.put, List.setIfInBounds_toArray, List.set_cons_zero, List.set_cons_succ, List.getElem_toArray, List.getElem_cons_succ, List.getElem_cons_zero]
                refine wpAnyH_take (i := 25) (v := ?gv145) rfl (by kernel_rfl) (by kernel_rfl) (by kernel_rfl) (fun _ _ _ h => h) (Or.inl ⟨by kernel_rfl, ?gy145⟩) (by assumption) ?gr145
                case gy145 => (intro w' hSw; (try dsimp only at hSw); go_simp; (try with_reducible rfl))
                try simp only [Act.put, List.setIfInBounds_toArray, List.set_cons_zero, List.set_cons_succ, List.getElem_toArray, List.getElem_cons_succ, List.getElem_cons_zero]
                refine wpAnyH_take (i := 26) (v := ?gv146) rfl (by kernel_rfl) (by kernel_rfl) (by kernel_rfl) (fun _ _ _ h => h) (Or.inl ⟨by kernel_rfl, ?gy146⟩) (by assumption) ?gr146
                case gy146 => (intro w' hSw; (try dsimp only at hSw); go_simp; (try with_reducible rfl))
                try simp only [Act.put, List.setIfInBounds_toArray, List.set_cons_zero, List.set_cons_succ, List.getElem_toArray, List.getElem_cons_succ, List.getElem_cons_zero]
                refine wpAnyH_take (i := 27) (v := ?gv147) rfl (by kernel_rfl) (by kernel_rfl) (by kernel_rfl) (fun _ _ _ h => h) (Or.inl ⟨by kernel_rfl, ?gy147⟩) (by assumption) ?gr147
                case gy147 => (intro w' hSw; (try dsimp only at hSw); go_simp; (try with_reducible rfl))
                try simp only [Act.put, List.setIfInBounds_toArray, List.set_cons_zero, List.set_cons_succ, List.getElem_toArray, List.getElem_cons_succ, List.getElem_cons_zero]
                refine wpAnyH_take (i := 28) (v := ?gv148) rfl (by kernel_rfl) (by kernel_rfl) (by kernel_rfl) (fun _ _ _ h => h) (Or.inl ⟨by kernel_rfl, ?gy148⟩) (by assumption) ?gr148
                case gy148 => (intro w' hSw; (try dsimp only at hSw); go_simp; (try with_reducible rfl))
                try simp only [Act.put, List.setIfInBounds_toArray, List.set_cons_zero, List.set_cons_succ, List.getElem_toArray, List.getElem_cons_succ, List.getElem_cons_zero]
                refine wpAnyH_take (i := 29) (v := ?gv149) rfl (by kernel_rfl) (by kernel_rfl) (by kernel_rfl) (fun _ _ _ h => h) (Or.inl ⟨by kernel_rfl, ?gy149⟩) (by assumption) ?gr149
                case gy149 => (intro w' hSw; (try dsimp only at hSw); go_simp; (try with_reducible rfl))
                try simp only [Act.put, List.setIfInBounds_toArray, List.set_cons_zero, List.set_cons_succ, List.getElem_toArray, List.getElem_cons_succ, List.getElem_cons_zero]
                refine wpAnyH_take (i := 30) (v := ?gv150) rfl (by kernel_rfl) (by kernel_rfl) (by kernel_rfl) (fun _ _ _ h => h) (Or.inl ⟨by kernel_rfl, ?gy150⟩) (by assumption) ?gr150
                case gy150 => (intro w' hSw; (try dsimp only at hSw); go_simp; (try with_reducible rfl))
                try simp only [Act.put, List.setIfInBounds_toArray, List.set_cons_zero, List.set_cons_succ, List.getElem_toArray, List.getElem_cons_succ, List.getElem_cons_zero]
                refine wpAnyH_take (i := 31) (v := ?gv151) rfl (by kernel_rfl) (by kernel_rfl) (by kernel_rfl) (fun _ _ _ h => h) (Or.inl ⟨by kernel_rfl, ?gy151⟩) (by assumption) ?gr151
                case gy151 => (intro w' hSw; (try dsimp only at hSw); go_simp; (try with_reducible rfl))
                try simp only [Act.put, List.setIfInBounds_toArray, List.set_cons_zero, List.set_cons_succ, List.getElem_toArray, List.getElem_cons_succ, List.getElem_cons_zero]
                refine wpAnyH_take (i := 32) (v := ?gv152) rfl (by kernel_rfl) (by kernel_rfl) (by kernel_rfl) (fun _ _ _ h => h) (Or.inl ⟨by kernel_rfl, ?gy152⟩) (by assumption) ?gr152
                case gy152 => (intro w' hSw; (try dsimp only at hSw); go_simp; (try with_reducible rfl))
                try simp only [Act.put, List.setIfInBounds_toArray, List.set_cons_zero, List.set_cons_succ, List.getElem_toArray, List.getElem_cons_succ, List.getElem_cons_zero]
                refine wpAnyH_take (i := 33) (v := ?gv153) rfl (by kernel_rfl) (by kernel_rfl) (by kernel_rfl) (fun _ _ _ h => h) (Or.inl ⟨by kernel_rfl, ?gy153⟩) (by assumption) ?gr153
                case gy153 => (intro w' hSw; (try dsimp only at hSw); go_simp; (try with_reducible rfl))
                try simp only [Act.put, List.setIfInBounds_toArray, List.set_cons_zero, List.set_cons_succ, List.getElem_toArray, List.getElem_cons_succ, List.getElem_cons_zero]
                refine wpAnyH_take (i := 34) (v := ?gv154) rfl (by kernel_rfl) (by kernel_rfl) (by kernel_rfl) (fun _ _ _ h => h) (Or.inl ⟨by kernel_rfl, ?gy154⟩) (by assumption) ?gr154
                case gy154 => (intro w' hSw; (try dsimp only at hSw); go_simp; (try with_reducible rfl))
                try simp only [Act.put, List.setIfInBounds_toArray, List.set_cons_zero, List.set_cons_succ, List.getElem_toArray, List.getElem_cons_succ, List.getElem_cons_zero]
                refine wpAnyH_take (i := 35) (v := ?gv155) rfl (by kernel_rfl) (by kernel_rfl) (by kernel_rfl) (fun _ _ _ h => h) (Or.inl ⟨by kernel_rfl, ?gy155⟩) (by assumption) ?gr155
                case gy155 => (intro w' hSw; (try dsimp only at hSw); go_simp; (try with_reducible rfl))
                try simp only [Act.put, List.setIfInBounds_toArray, List.set_cons_zero, List.set_cons_succ, List.getElem_toArray, List.getElem_cons_succ, List.getElem_cons_zero]
                refine wpAnyH_take (i := 36) (v := ?gv156) rfl (by kernel_rfl) (by kernel_rfl) (by kernel_rfl) (fun _ _ _ h => h) (Or.inl ⟨by kernel_rfl, ?gy156⟩) (by assumption) ?gr156
                case gy156 => (intro w' hSw; (try dsimp only at hSw); go_simp; (try with_reducible rfl))
                try simp only [Act.put, List.setIfInBounds_toArray, List.set_cons_zero, List.set_cons_succ, List.getElem_toArray, List.getElem_cons_succ, List.getElem_cons_zero]
                refine wpAnyH_take (i := 37) (v := ?gv157) rfl (by kernel_rfl) (by kernel_rfl) (by kernel_rfl) (fun _ _ _ h => h) (Or.inl ⟨by kernel_rfl, ?gy157⟩) (by assumption) ?gr157
                case gy157 => (intro w' hSw; (try dsimp only at hSw); go_simp; (try with_reducible rfl))
                try simp only [Act.put, List.setIfInBounds_toArray, List.set_cons_zero, List.set_cons_succ, List.getElem_toArray, List.getElem_cons_succ, List.getElem_cons_zero]
                refine wpAnyH_take (i := 38) (v := ?gv158) rfl (by kernel_rfl) (by kernel_rfl) (by kernel_rfl) (fun _ _ _ h => h) (Or.inl ⟨by kernel_rfl, ?gy158⟩) (by assumption) ?gr158
                case gy158 => (intro w' hSw; (try dsimp only at hSw); go_simp; (try with_reducible rfl))
                try simp only [Act.put, List.setIfInBounds_toArray, List.set_cons_zero, List.set_cons_succ, List.getElem_toArray, List.getElem_cons_succ, List.getElem_cons_zero]
                refine wpAnyH_take (i := 39) (v := ?gv159) rfl (by kernel_rfl) (by kernel_rfl) (by kernel_rfl) (fun _ _ _ h => h) (Or.inl ⟨by kernel_rfl, ?gy159⟩) (by assumption) ?gr159
                case gy159 => (intro w' hSw; (try dsimp only at hSw); go_simp; (try with_reducible rfl))
                try simp only [Act.put, List.setIfInBounds_toArray, List.set_cons_zero, List.set_cons_succ, List.getElem_toArray, List.getElem_cons_succ, List.getElem_cons_zero]
                refine wpAnyH_take (i := 40) (v := ?gv160) rfl (by kernel_rfl) (by kernel_rfl) (by kernel_rfl) (fun _ _ _ h => h) (Or.inl ⟨by kernel_rfl, ?gy160⟩) (by assumption) ?gr160
                case gy160 => (intro w' hSw; (try dsimp only at hSw); go_simp; (try with_reducible rfl))
                try simp only [Act.put, List.setIfInBounds_toArray, List.set_cons_zero, List.set_cons_succ, List.getElem_toArray, List.getElem_cons_succ, List.getElem_cons_zero]
                refine wpAnyH_take (i := 41) (v := ?gv161) rfl (by kernel_rfl) (by kernel_rfl) (by kernel_rfl) (fun _ _ _ h => h) (Or.inl ⟨by kernel_rfl, ?gy161⟩) (by assumption) ?gr161
                case gy161 => (intro w' hSw; (try dsimp only at hSw); go_simp; (try with_reducible rfl))
                try simp only [Act.put, List.setIfInBounds_toArray, List.set_cons_zero, List.set_cons_succ, List.getElem_toArray, List.getElem_cons_succ, List.getElem_cons_zero]
                refine wpAnyH_take (i := 42) (v := ?gv162) rfl (by kernel_rfl) (by kernel_rfl) (by kernel_rfl) (fun _ _ _ h => h) (Or.inl ⟨by kernel_rfl, ?gy162⟩) (by assumption) ?gr162
                case gy162 => (intro w' hSw; (try dsimp only at hSw); go_simp; (try with_reducible rfl))
                try simp only [Act.put, List.setIfInBounds_toArray, List.set_cons_zero, List.set_cons_succ, List.getElem_toArray, List.getElem_cons_succ, List.getElem_cons_zero]
                refine wpAnyH_done (by kernel_rfl) (NoPanic.normal ?_) _
                go_wp2
                go_ret
                exact ⟨ret_bool hfin.out.symm, HBD.out⟩
    · have hki : ¬ (k : Int) < (n : Int) := by omega
      obtain rfl : k = n := by omega
      have hfin : Hid (faultsB fs = decide (k ≤ 20)) := by show _ = _; rw [HL.out, all_range_true hall.out]; simp
      clear hall
      by_cases h10 : k ≤ 20
      · have h10' : (k : Int) ≤ 20 := by omega
        go_wp2
        go_ret
        exact ⟨ret_bool (by rw [hfin.out, decide_eq_true h10]), hB.out⟩
      · have h10' : ¬ (k : Int) ≤ 20 := by omega
        go_wp2
        go_ret
        exact ⟨ret_bool (by rw [hfin.out, decide_eq_false h10]), hB.out⟩
end
end Go.Proofs.YtoeeblmnogeonaaGreatDoor
