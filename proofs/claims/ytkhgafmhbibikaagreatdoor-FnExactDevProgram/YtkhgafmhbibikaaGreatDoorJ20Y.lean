/-
  Joined: DvX, DvP, ChUp.
-/
import Derived.Test.YtkhgafmhbibikaaGreatDoorJ19Y
namespace Go.Proofs.YtkhgafmhbibikaaGreatDoor
section
open Go.RowKit
set_option maxRecDepth 100000 in
set_option maxHeartbeats 8000000 in
theorem opErI (X F G n k K : Nat) (ks : List FkR) (f : FkR) (ops : Int) (fa : Option Addr) (m fc : Nat) (fs : List FtD) (down : Bool) (w0 w : World) (h : DO w0 w X F G n ks ops fa m fc down) (hfr : FR w fa m fs) (ho : 0 ≤ ops ∧ ops < 100000) (hfs : ∀ t ∈ fs, ftOk t = true) (hf : ks[k]? = some f) (hw : 0 ≤ f.wear ∧ f.wear ≤ 100000) (hK : Blk w K 119 #[.pointer (some ⟨G, k * 18, none⟩)]) (hKX : K ≠ X) :
    Calls Tryz.prog 90 #[.pointer (some ⟨X, 0, none⟩), .pointer (some ⟨G, k * 18, none⟩), .func (.func 100) #[] #[.pointer (some ⟨K, 0, none⟩)], .func (.func 102) #[] #[.pointer (some ⟨K, 0, none⟩)]] w (EvA w0 w X F G n 0 ks (erAt ks k) (badAt ks k) (tornAt ks k) (faD ops fs) ops fa m fc down) := by
  have hcall := beginI X F G n ks ops fa m fc fs down w0 w h hfr ho
  have C1 : Hid (∀ W : World, FO w0 W F G n ks → Blk W K 119 #[.pointer (some ⟨G, k * 18, none⟩)] → Calls Tryz.prog 100 #[.pointer (some ⟨K, 0, none⟩)] W (FOA w0 W F G n (erAt ks k))) := fun W h1 h2 => erC1I F G n k K ks f w0 W h1 hf hw h2
  have C2 : Hid (∀ (W : World) (kp : Int), 0 ≤ kp ∧ kp ≤ 400 → FO w0 W F G n ks → Blk W K 119 #[.pointer (some ⟨G, k * 18, none⟩)] → Calls Tryz.prog 102 (#[.int .i64 kp] ++ #[.pointer (some ⟨K, 0, none⟩)]) W (FOA w0 W F G n (tornAt ks k kp))) := fun W kp hkp h1 h2 => erC2I F G n k K ks f kp w0 W h1 hf hw hkp h2
  have hmem : ∀ t, faD ops fs = some t → 0 ≤ t.kp ∧ t.kp ≤ 400 := fun t ht => by
    have h1 := hfs t (List.mem_of_find?_eq_some ht)
    unfold ftOk at h1
    simp at h1
    omega
  obtain ⟨o, hoo⟩ : ∃ o, faD ops fs = o := ⟨_, rfl⟩
  rw [hoo] at hcall hmem ⊢
  have HKX : Hid _ := hKX
  have HK : Hid _ := hK
  have HF : Hid _ := hf
  have HDO : Hid _ := h
  have hXw := h.x.lt
  have hGw := h.fo.g.lt (g := G) rfl
  have HXG : Hid (X ≠ G) := h.xg
  clear hoo hfr hf hw hK h hfs ho
  cases o with
  | none =>
    simp only [Option.getD_none, Option.isSome_none, ftZ] at hcall
    generalize hGP : EvA w0 w X F G n 0 ks (erAt ks k) (badAt ks k) (tornAt ks k) none ops fa m fc down = P
    have HGP : Hid _ := hGP
    clear hGP hmem
    go_enter Tryz.func90, Tryz.ntmps90
    go_wp2_with fail
    refine hcall.mono ?_
    rintro e w1 ⟨rfl, do1, sv1⟩
    have b2 : Below w1.heap.size w1 (w1.alloc (.cells #[.int .i64 0, .int .i64 0, .int .i64 0] 65)) := (Below.refl _ _).alloc (Nat.le_refl _) _
    have do2 := do1.keep b2
    have k2 := (Blk.svs HK.out sv1 (by simp; exact HKX.out)).keep b2

    have hc2 := C1.out _ do2.fo k2
    have sv2 : Sv [X, G] w (w1.alloc (.cells #[.int .i64 0, .int .i64 0, .int .i64 0] 65)) := (sv1.wider (by simp)).trans (Below.sv b2 _)
    clear hcall do1 sv1 b2
    go_wp2_with fail
    refine hc2.mono ?_
    rintro e w3 ⟨rfl, fo3, sv3⟩
    have HN : Hid _ := And.intro (do2.row fo3 sv3) (sv2.trans (sv3.wider (by simp)))
    clear do2 fo3 sv3 sv2 hc2
    go_wp2
    rw [← HGP.out]
    exact ⟨rfl, HN.out.1, HN.out.2⟩
  | some t =>
    obtain ⟨ft, fk, fp⟩ := t
    simp only [Option.getD_some, Option.isSome_some] at hcall
    have hkp := hmem _ rfl
    dsimp only at hkp
    by_cases h1 : fk = 1
    · subst h1
      generalize hGP : EvA w0 w X F G n 0 ks (erAt ks k) (badAt ks k) (tornAt ks k) (some ⟨ft, 1, fp⟩) ops fa m fc down = P
      have HGP : Hid _ := hGP
      clear hGP hmem
      go_enter Tryz.func90, Tryz.ntmps90
      go_wp2_with fail
      refine hcall.mono ?_
      rintro e w1 ⟨rfl, do1, sv1⟩
      have b2 : Below w1.heap.size w1 (w1.alloc (.cells #[.int .i64 ft, .int .i64 1, .int .i64 fp] 65)) := (Below.refl _ _).alloc (Nat.le_refl _) _
      have do2 := do1.keep b2
      have sv2 : Sv [X, G] w (w1.alloc (.cells #[.int .i64 ft, .int .i64 1, .int .i64 fp] 65)) := (sv1.wider (by simp)).trans (Below.sv b2 _)
      obtain ⟨v0, p0⟩ := do2.fo.is HF.out (j := 17) (by omega)
      have g0 := do2.fo.g.frozen (k * 18 + 17)
      have fn := do2.fo.one (j := 17) (x := .bool true) HF.out (by omega) (en_bad f true)
      have hbk : badAt ks k = ks.set k (f.badTo true) := by unfold badAt; rw [HF.out]
      rw [← hbk] at fn
      have HN : Hid _ := And.intro (do2.row fn (sv_one _ _ _ _)) (sv2.trans ((sv_one _ G (k * 18 + 17) (.bool true)).wider (by simp)))
      clear do1 sv1 b2 do2 sv2 fn hbk hcall
      go_wp2
      rw [← HGP.out]
      exact ⟨rfl, HN.out.1, HN.out.2⟩
    · have h1b : (fk == 1) = false := by simpa using h1
      generalize hGP : EvA w0 w X F G n 0 ks (erAt ks k) (badAt ks k) (tornAt ks k) (some ⟨ft, fk, fp⟩) ops fa m fc down = P
      have HGP : Hid _ := hGP
      have H1 : Hid _ := h1
      clear hGP hmem h1
      go_enter Tryz.func90, Tryz.ntmps90
      go_wp2_with fail
      refine hcall.mono ?_
      rintro e w1 ⟨rfl, do1, sv1⟩
      have b2 : Below w1.heap.size w1 (w1.alloc (.cells #[.int .i64 ft, .int .i64 fk, .int .i64 fp] 65)) := (Below.refl _ _).alloc (Nat.le_refl _) _
      have do2 := do1.keep b2
      have k2 := (Blk.svs HK.out sv1 (by simp; exact HKX.out)).keep b2

      have hc2 := C2.out _ fp hkp do2.fo k2
      have sv2 : Sv [X, G] w (w1.alloc (.cells #[.int .i64 ft, .int .i64 fk, .int .i64 fp] 65)) := (sv1.wider (by simp)).trans (Below.sv b2 _)
      clear hcall do1 sv1 b2
      go_wp2_with fail
      refine hc2.mono ?_
      rintro e w3 ⟨rfl, fo3, sv3⟩
      have HN : Hid _ := And.intro (do2.row fo3 sv3) (sv2.trans (sv3.wider (by simp)))
      clear do2 fo3 sv3 sv2 hc2
      go_wp2
      rw [← HGP.out]
      have h1 := H1.out
      have e1 : evEnd 0 (some ⟨ft, fk, fp⟩) = .panicked [{ v := .iface 150 (.int .i64 10), recovered := false }] := by
        unfold evEnd opEnd
        rw [if_pos rfl]
        dsimp only
        rw [if_neg h1]
      have e2 : opK (erAt ks k) (badAt ks k) (tornAt ks k) (some ⟨ft, fk, fp⟩) = tornAt ks k fp := by
        unfold opK
        dsimp only
        rw [if_neg h1]
      refine ⟨rfl, e1.symm, ?_, HN.out.2⟩
      rw [if_pos rfl, if_pos rfl, e2]
      exact HN.out.1
/-- An ending of an operation: three kinds. -/
theorem evEnd_cases (cd : Int) (o : Option FtD) : (∃ v, evEnd cd o = .returned v ∧ (v = .nilIface ∨ ∃ c, v = .iface 150 (.int .i64 c))) ∨ evEnd cd o = .panicked [{ v := .iface 150 (.int .i64 10), recovered := false }] := by
  unfold evEnd
  split
  · unfold opEnd
    split
    · exact .inl ⟨_, rfl, .inl rfl⟩
    · split
      · exact .inl ⟨_, rfl, .inr ⟨_, rfl⟩⟩
      · exact .inr rfl
  · rename_i hc
    rw [errV_some hc]
    exact .inl ⟨_, rfl, .inr ⟨_, rfl⟩⟩
set_option maxRecDepth 100000 in
set_option maxHeartbeats 8000000 in
theorem dvErI (X F G n : Nat) (ks : List FkR) (x : Int) (ops : Int) (fa : Option Addr) (m fc : Nat) (fs : List FtD) (down : Bool) (w0 w : World) (hn : n ≤ 1048576) (h : DO w0 w X F G n ks ops fa m fc down) (hfr : FR w fa m fs) (ho : 0 ≤ ops ∧ ops < 100000) (hfs : ∀ t ∈ fs, ftOk t = true) (hw : ∀ f ∈ ks, 0 ≤ f.wear ∧ f.wear ≤ 100000) :
    Calls Tryz.prog 56 #[.pointer (some ⟨X, 0, none⟩), .int .i64 x] w (EvA w0 w X F G n (erC ks x) ks (erAt ks x.toNat) (badAt ks x.toNat) (tornAt ks x.toNat) (faD ops fs) ops fa m fc down) := by
  have hcall := bteI F G n ks x w0 w hn h.fo
  have x0 := h.x.cell 0
  simp at x0
  have hXw := h.x.lt
  by_cases hc : erC ks x = 0
  · obtain ⟨k, f, rfl, hf⟩ := btc_zero (fs := ks) (x := x) (by unfold erC at hc; split at hc <;> assumption)
    rw [if_pos hc, hc, errV_zero, Int.toNat_natCast] at hcall
    rw [hc, Int.toNat_natCast]
    have b1 : Below w.heap.size w (w.alloc (.cells #[.pointer (some ⟨G, k * 18, none⟩)] 119)) := (Below.refl _ _).alloc (Nat.le_refl _) _
    have zK := Blk.new w 119 #[.pointer (some ⟨G, k * 18, none⟩)]
    have hcall2 := opErI X F G n k w.heap.size ks f ops fa m fc fs down w0 _ (h.keep b1) (hfr.keep b1) ho hfs hf (hw f (List.mem_of_getElem? hf)) zK (by omega)
    generalize hGP : EvA w0 w X F G n 0 ks (erAt ks k) (badAt ks k) (tornAt ks k) (faD ops fs) ops fa m fc down = P
    have HGP : Hid _ := hGP
    have HB1 : Hid _ := b1
    obtain ⟨H, hH⟩ : ∃ H, w.heap.size = H := ⟨_, rfl⟩
    rw [hH] at hcall2
    have hmf : ∀ (fn : Fn) (first cap : Array Value) (w : World), (Instr.makeFunc fn first cap).run Tryz.prog w = .ok (.func fn first cap) w := fun _ _ _ _ => rfl
    clear hc hf hfr hfs hw h b1 zK hGP
    go_enter Tryz.func56, Tryz.ntmps56
    go_wp2_with fail
    refine hcall.mono ?_
    rintro e w1 ⟨rfl, hw1⟩
    obtain rfl := hw1.symm
    go_wp2_with fail
    refine hcall2.mono ?_
    rintro e w2 ⟨he, d2, sv2⟩
    have HA : Hid (EvA w0 w X F G n 0 ks (erAt ks k) (badAt ks k) (tornAt ks k) (faD ops fs) ops fa m fc down e w2) := ⟨he, d2, (Below.sv HB1.out _).trans sv2⟩
    have HA2 : Hid (P e w2) := by show P e w2; rw [← HGP.out]; exact HA.out
    clear d2 sv2 hcall hcall2 hXw HGP HA
    rcases evEnd_cases 0 (faD ops fs) with ⟨v, e1, (rfl | ⟨c, rfl⟩)⟩ | e1
    · rw [e1] at he
      subst he
      go_wp2
      exact HA2.out
    · rw [e1] at he
      subst he
      go_wp2
      exact HA2.out
    · rw [e1] at he
      subst he
      go_wp2
      first | exact HA2.out | exact ⟨rfl, HA2.out⟩
  · rw [if_neg hc, errV_some hc] at hcall
    generalize hGP : EvA w0 w X F G n (erC ks x) ks (erAt ks x.toNat) (badAt ks x.toNat) (tornAt ks x.toNat) (faD ops fs) ops fa m fc down = P
    have HGP : Hid _ := hGP
    have b1 : Below w.heap.size w (w.alloc (.cells #[.pointer none] 119)) := (Below.refl _ _).alloc (Nat.le_refl _) _
    have HN : Hid _ := And.intro (h.keep b1) (Below.sv b1 [X, G])
    have HC : Hid _ := hc
    obtain ⟨c, hcc⟩ : ∃ c, erC ks x = c := ⟨_, rfl⟩
    have HCC : Hid _ := hcc
    rw [hcc] at hcall
    clear hGP h hfr hfs hw b1 hc hcc
    go_enter Tryz.func56, Tryz.ntmps56
    go_wp2_with fail
    refine hcall.mono ?_
    rintro e w1 ⟨rfl, hw1⟩
    obtain rfl := hw1.symm
    go_wp2
    rw [← HGP.out]
    have h1 := HC.out
    refine ⟨?_, ?_, HN.out.2⟩
    · unfold evEnd
      rw [if_neg h1, errV_some h1, HCC.out]
      rfl
    · rw [if_neg h1, if_neg h1]
      exact HN.out.1
set_option maxRecDepth 100000 in
set_option maxHeartbeats 4000000 in
theorem ev_through {X F G n B : Nat} {ks kA kB : List FkR} {kC : Int → List FkR} {x cd : Int} {o : Option FtD} {ops : Int} {fa : Option Addr} {m fc : Nat} {down : Bool} {w0 w : World} (x0 : w.cell? ⟨B, 0, none⟩ = some (.int .i64 x)) (hcall : Calls Tryz.prog 56 #[.pointer (some ⟨X, 0, none⟩), .int .i64 x] w (EvA w0 w X F G n cd ks kA kB kC o ops fa m fc down)) :
    Calls Tryz.prog 55 #[.pointer (some ⟨X, 0, none⟩), .pointer (some ⟨B, 0, none⟩)] w (EvA w0 w X F G n cd ks kA kB kC o ops fa m fc down) := by
  generalize hGP : EvA w0 w X F G n cd ks kA kB kC o ops fa m fc down = P at hcall ⊢
  have HGP : Hid _ := hGP
  clear hGP
  go_enter Tryz.func55, Tryz.ntmps55
  go_wp2_with fail
  refine hcall.mono ?_
  intro e w1 hA
  have HA : Hid _ := hA
  rw [← HGP.out] at hA
  obtain ⟨he, _, _⟩ := hA
  clear HGP hcall
  rcases evEnd_cases cd o with ⟨v, e1, (rfl | ⟨c, rfl⟩)⟩ | e1
  · rw [e1] at he
    subst he
    go_wp2
    exact HA.out
  · rw [e1] at he
    subst he
    go_wp2
    exact HA.out
  · rw [e1] at he
    subst he
    go_wp2
    first | exact HA.out | exact ⟨rfl, HA.out⟩
set_option maxRecDepth 100000 in
set_option maxHeartbeats 4000000 in
theorem dvEr1I (X F G n B : Nat) (ks : List FkR) (x : Int) (ops : Int) (fa : Option Addr) (m fc : Nat) (fs : List FtD) (down : Bool) (w0 w : World) (hn : n ≤ 1048576) (h : DO w0 w X F G n ks ops fa m fc down) (hfr : FR w fa m fs) (ho : 0 ≤ ops ∧ ops < 100000) (hfs : ∀ t ∈ fs, ftOk t = true) (hw : ∀ f ∈ ks, 0 ≤ f.wear ∧ f.wear ≤ 100000) (hB : Blk w B 3 #[.int .i64 x]) :
    Calls Tryz.prog 55 #[.pointer (some ⟨X, 0, none⟩), .pointer (some ⟨B, 0, none⟩)] w (EvA w0 w X F G n (erC ks x) ks (erAt ks x.toNat) (badAt ks x.toNat) (tornAt ks x.toNat) (faD ops fs) ops fa m fc down) := by
  have hcall := dvErI X F G n ks x ops fa m fc fs down w0 w hn h hfr ho hfs hw
  have x0 := hB.cell 0
  simp at x0
  generalize erC ks x = cd at hcall ⊢
  generalize erAt ks x.toNat = kA at hcall ⊢
  generalize badAt ks x.toNat = kB at hcall ⊢
  generalize tornAt ks x.toNat = kC at hcall ⊢
  exact ev_through x0 hcall
end

section
open Go.RowKit
/-- What DevOk asks. -/
noncomputable def devB (ds : List BkD) (ops : Int) (fs : List FtD) : Bool := chipOkB ds && (decide (0 ≤ ops) && decide (ops ≤ 100000)) && faultsB fs
set_option maxRecDepth 100000 in
set_option maxHeartbeats 4000000 in
theorem devOkI (a : Option Addr) (n cap : Nat) (bs : List BkR) (ops : Int) (fa : Option Addr) (m fc : Nat) (fs : List FtD) (down : Bool) (w : World) (ht : CR w a n bs) (hf : FR w fa m fs) :
    Calls Tryz.prog 26 #[.agg #[.slice a n cap, .int .i64 ops, .slice fa m fc, .bool down]] w fun e w' => e = .returned (.bool (devB (bs.map BkR.D) ops fs)) ∧ Below w.heap.size w w' := by
  have B0 : Below w.heap.size w (w.alloc (.cells #[.slice a n cap, .int .i64 ops, .slice fa m fc, .bool down] 35)) := (Below.refl _ w).alloc (Nat.le_refl _) _
  have z0 := Blk.new w 35 #[.slice a n cap, .int .i64 ops, .slice fa m fc, .bool down]
  have hcall := chipOkI a n cap bs (w.alloc (.cells #[.slice a n cap, .int .i64 ops, .slice fa m fc, .bool down] 35)) (ht.keep B0)
  unfold devB
  have hc2 := fun W : World => opsOkI ops W
  have hc3 := fun (W : World) (h : FR W fa m fs) => faultsOkI fa m fc fs W h
  generalize chipOkB (bs.map BkR.D) = p at hcall ⊢
  generalize (decide (0 ≤ ops) && decide (ops ≤ 100000)) = q at hc2 ⊢
  generalize faultsB fs = r at hc3 ⊢
  have HF : Hid _ := hf.keep B0
  have HB : Hid _ := B0
  clear ht hf B0
  go_enter Tryz.func26, Tryz.ntmps26
  go_wp2_with fail
  refine hcall.mono ?_
  rintro e w1 ⟨rfl, hb1⟩
  clear hcall
  have z1 := z0.keep hb1
  have B1 := HB.out.trans (hb1.mono HB.out.size)
  cases p
  · go_wp2
    go_ret
    exact ⟨rfl, B1⟩
  · have y1 := z1.cell 1
    have y2 := z1.cell 2
    simp at y1 y2
    have hc2 := hc2 w1
    have hc3 := hc3 w1 (HF.out.keep hb1)
    clear z0 z1 hb1
    go_wp2_with fail
    refine hc2.mono ?_
    rintro e w2 ⟨rfl, hw⟩
    obtain rfl := hw.symm
    clear hc2
    cases q
    · go_wp2
      go_ret
      exact ⟨rfl, B1⟩
    · go_wp2_with fail
      refine hc3.mono ?_
      rintro e w2 ⟨rfl, hb2⟩
      clear hc3 y1 y2
      go_wp2
      go_ret
      exact ⟨by simp, B1.trans (hb2.mono B1.size)⟩
end

section
open Go.RowKit
theorem split_at {α : Type} {l : List α} {k : Nat} {x : α} (h : l[k]? = some x) (y : α) : l = l.take k ++ x :: l.drop (k + 1) ∧ l.set k y = l.take k ++ y :: l.drop (k + 1) := by
  obtain ⟨hl, he⟩ := List.getElem?_eq_some_iff.1 h
  have h1 : l = l.take k ++ x :: l.drop (k + 1) := by
    conv => lhs; rw [← List.take_append_drop k l, List.drop_eq_getElem_cons hl, he]
  refine ⟨h1, ?_⟩
  rw [List.set_eq_take_append_cons_drop, if_pos hl]
/-- One element put anew: what it takes was taken by the old one, or is new. -/
theorem Inn.put {α δ : Type} {K : Kd α δ} {w w' : World} {H S k : Nat} {ds : List δ} {qs : List α} {x q : α} (h : Inn K w H ds qs) (hx : qs[k]? = some x) (hS : ∀ g ∈ K.fps qs, g < S) (hH : H ≤ S)
    (hq : K.own w' q) (hfp : ∀ g ∈ K.fp q, g ∈ K.fp x ∨ S ≤ g) (hd : (K.fp q).Nodup) (hk : ∀ g ∈ K.fps qs, g ∉ K.fp x → w'.heap[g]? = w.heap[g]?) : Inn K w' H (ds.set k (K.D q)) (qs.set k q) := by
  obtain ⟨e1, e2⟩ := split_at hx q
  have hnd := h.nd
  have hsub : ∀ g ∈ K.fp x, g ∈ K.fps qs := fun g hg => List.mem_flatMap.2 ⟨x, List.mem_of_getElem? hx, hg⟩
  have hfe : K.fps qs = (qs.take k).flatMap K.fp ++ (K.fp x ++ (qs.drop (k + 1)).flatMap K.fp) := by
    unfold Kd.fps
    conv => lhs; rw [e1]
    rw [List.flatMap_append, List.flatMap_cons]
  have hfs : K.fps (qs.set k q) = (qs.take k).flatMap K.fp ++ (K.fp q ++ (qs.drop (k + 1)).flatMap K.fp) := by
    unfold Kd.fps
    rw [e2, List.flatMap_append, List.flatMap_cons]
  rw [hfe] at hnd hS
  rw [List.nodup_append, List.nodup_append] at hnd
  obtain ⟨nA, ⟨nX, nC, dXC⟩, dA⟩ := hnd
  refine ⟨?_, fun r hr => ?_, fun g hg => ?_, ?_⟩
  · rw [List.map_set, h.D]
  · rcases mem_set hr with rfl | ⟨j, hj, hrj⟩
    · exact hq
    · refine K.block (h.own r (List.mem_of_getElem? hrj)) fun g hg => hk g (List.mem_flatMap.2 ⟨r, List.mem_of_getElem? hrj, hg⟩) ?_
      exact flat_apart h.nd hrj hx hj hg
  · rw [hfs] at hg
    rcases List.mem_append.1 hg with h1 | h1
    · exact h.new g (by rw [hfe]; exact List.mem_append_left _ h1)
    · rcases List.mem_append.1 h1 with h2 | h2
      · rcases hfp g h2 with h3 | h3
        · exact h.new g (hsub g h3)
        · omega
      · exact h.new g (by rw [hfe]; exact List.mem_append_right _ (List.mem_append_right _ h2))
  · rw [hfs, List.nodup_append, List.nodup_append]
    refine ⟨nA, ⟨hd, nC, fun a ha b hb e => ?_⟩, fun a ha b hb e => ?_⟩
    · subst e
      rcases hfp a ha with h1 | h1
      · exact dXC a h1 a hb rfl
      · have := hS a (List.mem_append_right _ (List.mem_append_right _ hb)); omega
    · subst e
      rcases List.mem_append.1 hb with h1 | h1
      · rcases hfp a h1 with h2 | h2
        · exact dA a ha a (List.mem_append_left _ h2) rfl
        · have := hS a (List.mem_append_left _ ha); omega
      · exact dA a ha a (List.mem_append_right _ h1) rfl
theorem NewBs.inn {w : World} {B : Nat} {v : Value} {ds : List BkD} {bs : List BkR} (h : NewBs w B v ds bs) : Inn bkK w B ds bs := ⟨h.D, h.own.2, fun g hg => h.new g (List.mem_append_right _ hg), (List.nodup_append.1 h.nd).2.1⟩
theorem NewBs.row {w : World} {B g n c : Nat} {ds : List BkD} {bs : List BkR} (h : NewBs w B (.slice (some ⟨g, 0, none⟩) n c) ds bs) : g ∉ bkK.fps bs ∧ B ≤ g := ⟨fun hg => (List.nodup_append.1 h.nd).2.2 g (by simp [Value.ownBlock]) g hg rfl, h.new g (fpBs_row rfl)⟩
theorem NewPs.inn {w : World} {B : Nat} {v : Value} {ds : List PgD} {bs : List PgR} (h : NewPs w B v ds bs) : Inn pgK w B ds bs := ⟨h.D, h.own.2, fun g hg => h.new g (List.mem_append_right _ hg), (List.nodup_append.1 h.nd).2.1⟩
theorem flat_nodup' {α : Type} {f : α → List Nat} {l : List α} (hd : (l.flatMap f).Nodup) {x : α} (h : x ∈ l) : (f x).Nodup := by
  induction l with
  | nil => simp at h
  | cons z l ih =>
    rw [List.flatMap_cons, List.nodup_append] at hd
    rcases List.mem_cons.1 h with rfl | h
    · exact hd.1
    · exact ih hd.2.1 h
/-- The pages of the block k put anew. -/
theorem NewBs.pages {W W1 : World} {B g n c k n1 c1 : Nat} {a1 : Option Addr} {ds : List BkD} {bs : List BkR} {b : BkR} {qd : List PgD} {qs : List PgR} (h : NewBs W B (.slice (some ⟨g, 0, none⟩) n c) ds bs) (hn : bs.length = n) (hb : bs[k]? = some b) (b1 : Below W.heap.size W W1) (hp : NewPs W1 W.heap.size (.slice a1 n1 c1) qd qs) (hq : qs.length = n1) :
    NewBs (W1.setCell ⟨g, k * 3, none⟩ (.slice a1 n1 c1)) B (.slice (some ⟨g, 0, none⟩) n c) (ds.set k ⟨qd, b.wear, b.bad⟩) (bs.set k ⟨a1, c1, qs, b.wear, b.bad⟩) := by
  subst hq
  have hr := h.row
  have hlt := h.own.lt
  have hgl : g < W.heap.size := hlt g (fpBs_row rfl)
  have hset : ∀ j, j ≠ g → (W1.setCell ⟨g, k * 3, none⟩ (.slice a1 qs.length c1)).heap[j]? = W1.heap[j]? := fun j hj => Below.heap_setCell _ _ _ _ hj
  have hfq : bkK.fp (⟨a1, c1, qs, b.wear, b.bad⟩ : BkR) = fpPs (.slice a1 qs.length c1) qs := rfl
  have hown : OwnE bkE 57 W1 (.slice (some ⟨g, 0, none⟩) n c) n bs := by have := (h.own.1).keep b1; rw [hn] at this; exact this
  have s := hown.set k 0 b ⟨a1, c1, qs, b.wear, b.bad⟩ (.slice a1 qs.length c1) hb (by decide) rfl
  have hin := h.inn.put (w' := W1.setCell ⟨g, k * 3, none⟩ (.slice a1 qs.length c1)) (S := W.heap.size) (q := (⟨a1, c1, qs, b.wear, b.bad⟩ : BkR)) hb (fun j hj => h.inn.lt j hj) (Nat.le_trans hr.2 (by omega)) (by
      show OwnPs _ (.slice a1 qs.length c1) qs
      exact hp.own.block fun j hj => hset j (fun e => by subst e; have := hp.new j hj; omega)) (fun j hj => .inr (hp.new j hj)) hp.nd (fun j hj _ => by rw [hset j (fun e => by subst e; exact hr.1 hj)]; exact b1.block j (h.inn.lt j hj))
  have hD : bkK.D (⟨a1, c1, qs, b.wear, b.bad⟩ : BkR) = ⟨qd, b.wear, b.bad⟩ := by show BkD.mk (qs.map PgR.D) b.wear b.bad = _; rw [hp.D]
  rw [hD] at hin
  refine hin.newBs (by rw [List.length_set, hn]; exact s) (Nat.le_refl _) (fun j hj => ?_)
  simp [Value.ownBlock] at hj
  subst hj
  refine ⟨hr.2, fun hf => ?_⟩
  obtain ⟨e1, e2⟩ := split_at hb (⟨a1, c1, qs, b.wear, b.bad⟩ : BkR)
  unfold Kd.fps at hf
  obtain ⟨x, hx, hxf⟩ := List.mem_flatMap.1 hf
  rcases mem_set hx with rfl | ⟨j, hj, hxj⟩
  · have := hp.new g hxf; omega
  · exact hr.1 (List.mem_flatMap.2 ⟨x, List.mem_of_getElem? hxj, hxf⟩)
/-- The wear of the block k put anew. -/
theorem NewBs.wear {W : World} {B g n c k : Nat} {ds : List BkD} {bs : List BkR} {b : BkR} (h : NewBs W B (.slice (some ⟨g, 0, none⟩) n c) ds bs) (hn : bs.length = n) (hb : bs[k]? = some b) (y : Int) :
    NewBs (W.setCell ⟨g, k * 3 + 1, none⟩ (.int .i64 y)) B (.slice (some ⟨g, 0, none⟩) n c) (ds.set k ⟨b.ps.map PgR.D, y, b.bad⟩) (bs.set k ⟨b.a, b.cap, b.ps, y, b.bad⟩) := by
  have hr := h.row
  have hset : ∀ j, j ≠ g → (W.setCell ⟨g, k * 3 + 1, none⟩ (.int .i64 y)).heap[j]? = W.heap[j]? := fun j hj => Below.heap_setCell _ _ _ _ hj
  have hown : OwnE bkE 57 W (.slice (some ⟨g, 0, none⟩) n c) n bs := by have := h.own.1; rw [hn] at this; exact this
  have s := hown.set k 1 b ⟨b.a, b.cap, b.ps, y, b.bad⟩ (.int .i64 y) hb (by decide) rfl
  have hfx : ∀ j ∈ bkK.fps bs, j ≠ g := fun j hj e => by subst e; exact hr.1 hj
  have hbm : b ∈ bs := List.mem_of_getElem? hb
  have hin := h.inn.put (w' := W.setCell ⟨g, k * 3 + 1, none⟩ (.int .i64 y)) (S := W.heap.size) (q := (⟨b.a, b.cap, b.ps, y, b.bad⟩ : BkR)) hb (fun j hj => h.inn.lt j hj) (by have := h.own.lt g (fpBs_row rfl); have := hr.2; omega) (by
      show OwnPs _ b.v b.ps
      exact (h.own.2 b hbm).block fun j hj => hset j (hfx j (List.mem_flatMap.2 ⟨b, hbm, hj⟩))) (fun j hj => .inl hj) (show (fpPs b.v b.ps).Nodup from flat_nodup' (f := bkK.fp) h.inn.nd hbm) (fun j hj _ => hset j (hfx j hj))
  refine hin.newBs (by rw [List.length_set, hn]; exact s) (Nat.le_refl _) (fun j hj => ?_)
  simp [Value.ownBlock] at hj
  subst hj
  refine ⟨hr.2, fun hf => ?_⟩
  obtain ⟨x, hx, hxf⟩ := List.mem_flatMap.1 hf
  rcases mem_set hx with rfl | ⟨j, hj, hxj⟩
  · exact hr.1 (List.mem_flatMap.2 ⟨b, hbm, hxf⟩)
  · exact hr.1 (List.mem_flatMap.2 ⟨x, List.mem_of_getElem? hxj, hxf⟩)
end
end Go.Proofs.YtkhgafmhbibikaaGreatDoor
