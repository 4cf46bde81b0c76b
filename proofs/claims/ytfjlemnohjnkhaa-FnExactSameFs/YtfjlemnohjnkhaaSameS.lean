/-
  Inodes compared: the specification's SameInode.
-/
import Derived.Test.YtfjlemnohjnkhaaRows
import Derived.Test.YtfjlemnohjnkhaaBase
import Derived.Test.YtfjlemnohjnkhaaName
import Derived.Test.YtfjlemnohjnkhaaPairs
import Derived.Test.YtfjlemnohjnkhaaInode
import Derived.Test.YtfjlemnohjnkhaaSzIno
import Derived.Test.YtfjlemnohjnkhaaSix
import Derived.Test.YtfjlemnohjnkhaaSameE
import Derived.Test.YtfjlemnohjnkhaaSameB
import Derived.Test.YtfjlemnohjnkhaaInoOk
import Derived.Test.YtfjlemnohjnkhaaSameI
import Derived.WalkKit
import Derived.WalkSpells
import Derived.WalkLawsBesides
import Derived.Deep.QuietTactic
import Derived.BigQuiet
import Derived.OpenShut
import Derived.Laws.BitsAllLaws
import Derived.Maps.AppendAt
import Derived.Lib.SliceRun
import Derived.Lib.Strings
import Derived.Deep.RegionWith
import Derived.Laws.IdiomStrings
import Derived.Deep.Slices
import Derived.ProofKit
import Derived.ChangeOld
import Derived.Below
import Derived.Laws.StructEq
import Derived.Laws.BytesString
import Derived.Deep.DeepCutAuto
namespace Go.Proofs.Ytfjlemnohjnkhaa
open Go.RowKit
set_option maxHeartbeats 4000000 in
theorem sameS (D E : InoD) (a1 a2 a3 b1 b2 b3 : Option Addr) (c1 c2 c3 d1 d2 d3 : Nat) (w : World) (hD : InoSmall D) (hE : InoSmall E) (hr : InoRd w D a1 a2 a3) (hr' : InoRd w E b1 b2 b3) :
    Calls Try.prog 37 #[inoV D a1 c1 a2 c2 a3 c3, inoV E b1 d1 b2 d2 b3 d3] w fun e w' => e = .returned (.bool (sameOf D E)) ∧ Below w.heap.size w w' := by
  obtain ⟨W0, hW0, B0, z0, y0⟩ := two_boxes w D E a1 a2 a3 b1 b2 b3 c1 c2 c3 d1 d2 d3
  have HW0 : Hid _ := hW0
  have i1 := hD.data
  have i2 := hD.ents
  have i3 := hD.attrs
  have j1 := hE.data
  have j2 := hE.ents
  have j3 := hE.attrs
  clear hW0
  unfold inoV
  cases h1 : (D.ino == E.ino) with
  | false =>
    have h1n : (D.ino != E.ino) = true := by simp only [bne, h1]; rfl
    have hf : Hid (sameOf D E = false) := by show _ = _; unfold sameOf; rw [h1]; rfl
    go_enter Try.func37, Try.ntmps37
    go_wp2
    go_ret
    exact ⟨ret_bool hf.out.symm, by rw [HW0.out]; exact B0⟩
  | true =>
  have h1n : (D.ino != E.ino) = false := by simp only [bne, h1]; rfl
  cases h2 : (D.kind == E.kind) with
  | false =>
    have h2n : (D.kind != E.kind) = true := by simp only [bne, h2]; rfl
    have hf : Hid (sameOf D E = false) := by show _ = _; unfold sameOf; rw [h1, h2]; rfl
    go_enter Try.func37, Try.ntmps37
    go_wp2
    go_ret
    exact ⟨ret_bool hf.out.symm, by rw [HW0.out]; exact B0⟩
  | true =>
  have h2n : (D.kind != E.kind) = false := by simp only [bne, h2]; rfl
  cases h3 : (D.links == E.links) with
  | false =>
    have h3n : (D.links != E.links) = true := by simp only [bne, h3]; rfl
    have hf : Hid (sameOf D E = false) := by show _ = _; unfold sameOf; rw [h1, h2, h3]; rfl
    go_enter Try.func37, Try.ntmps37
    go_wp2
    go_ret
    exact ⟨ret_bool hf.out.symm, by rw [HW0.out]; exact B0⟩
  | true =>
  have h3n : (D.links != E.links) = false := by simp only [bne, h3]; rfl
  have hf : Hid (sameOf D E = (decide (D.data = E.data) && (decide (D.ents = E.ents) && decide (D.attrs = E.attrs)))) := by show _ = _; unfold sameOf; rw [h1, h2, h3]; rfl
  go_enter Try.func37, Try.ntmps37
  go_wp2_with fail
  rw [HW0.out]
  refine (sameB_any a1 b1 _ _ c1 d1 D.data E.data W0 rfl rfl (by omega) (by omega) (hr.data.keep B0) (hr'.data.keep B0)).mono ?_
  rintro e w1 ⟨rfl, hdr⟩
  have t1 : Below W0.heap.size W0 w1 := drewN_below hdr
  have B1 := B0.trans (t1.mono B0.size)
  have z1 := z0.keep t1
  have y1 := y0.keep t1
  obtain ⟨q0, q1, q2, q3, q4, q5⟩ := z1.six
  obtain ⟨p0, p1, p2, p3, p4, p5⟩ := y1.six
  clear hdr t1
  cases h4 : decide (D.data = E.data) with
  | false =>
    go_wp2
    go_ret
    exact ⟨ret_bool (by rw [hf.out, h4]; rfl), B1⟩
  | true =>
  by_cases hne : D.ents.length ≠ E.ents.length
  · have hne' : ((D.ents.length : Int) == (E.ents.length : Int)) = false := by simp; omega
    have hfin : Hid (sameOf D E = false) := by show _ = _; rw [hf.out, decide_eq_false (fun e => hne (by rw [e]) : ¬ D.ents = E.ents)]; simp
    have hne2 : ((D.ents.length : Int) != (E.ents.length : Int)) = true := by simp; omega
    clear hne
    go_wp2
    go_ret
    exact ⟨ret_bool hfin.out.symm, B1⟩
  have hne : D.ents.length = E.ents.length := Decidable.not_not.1 hne
  have hne' : ((D.ents.length : Int) == (E.ents.length : Int)) = true := by simp [hne]
  have hne2 : ((D.ents.length : Int) != (E.ents.length : Int)) = false := by simp [hne]
  by_cases hna : D.attrs.length ≠ E.attrs.length
  · have hna' : ((D.attrs.length : Int) == (E.attrs.length : Int)) = false := by simp; omega
    have hfin : Hid (sameOf D E = false) := by show _ = _; rw [hf.out, decide_eq_false (fun e => hna (by rw [e]) : ¬ D.attrs = E.attrs)]; simp
    have hna2 : ((D.attrs.length : Int) != (E.attrs.length : Int)) = true := by simp; omega
    have HNE : Hid (D.ents.length = E.ents.length) := hne
    clear hna hne
    go_wp2
    go_ret
    exact ⟨ret_bool hfin.out.symm, B1⟩
  have hna : D.attrs.length = E.attrs.length := Decidable.not_not.1 hna
  have hna' : ((D.attrs.length : Int) == (E.attrs.length : Int)) = true := by simp [hna]
  have hna2 : ((D.attrs.length : Int) != (E.attrs.length : Int)) = false := by simp [hna]
  have hf2 : Hid (sameOf D E = (decide (D.ents = E.ents) && decide (D.attrs = E.attrs))) := by show _ = _; rw [hf.out, h4]; rfl
  have HNE : Hid (D.ents.length = E.ents.length) := hne
  have HNA : Hid (D.attrs.length = E.attrs.length) := hna
  have HRE : Hid (RdP w1 a2 (eP D.ents) ∧ RdP w1 b2 (eP E.ents)) := ⟨hr.ents.keep B1, hr'.ents.keep B1⟩
  have HRA : Hid (RdP w1 a3 (aP D.attrs) ∧ RdP w1 b3 (aP E.attrs)) := ⟨hr.attrs.keep B1, hr'.attrs.keep B1⟩
  obtain ⟨n2, hn2⟩ : ∃ n, D.ents.length = n := ⟨_, rfl⟩
  obtain ⟨n3, hn3⟩ : ∃ n, D.attrs.length = n := ⟨_, rfl⟩
  obtain ⟨m2, hm2⟩ : ∃ n, E.ents.length = n := ⟨_, rfl⟩
  obtain ⟨m3, hm3⟩ : ∃ n, E.attrs.length = n := ⟨_, rfl⟩
  obtain ⟨L1, hL1⟩ : ∃ n, D.data.length = n := ⟨_, rfl⟩
  obtain ⟨M1, hM1⟩ : ∃ n, E.data.length = n := ⟨_, rfl⟩
  have K2 : Hid (D.ents.length = n2) := hn2
  have K3 : Hid (D.attrs.length = n3) := hn3
  have K2' : Hid (E.ents.length = n2) := by show _ = _; rw [← HNE.out]; exact hn2
  have K3' : Hid (E.attrs.length = n3) := by show _ = _; rw [← HNA.out]; exact hn3
  have hmn2 : m2 = n2 := by rw [← hm2]; exact K2'.out
  have hmn3 : m3 = n3 := by rw [← hm3]; exact K3'.out
  rw [hn2] at q4 hne' hne2 i2
  rw [hn3] at q5 hna' hna2 i3
  rw [hm2] at p4 hne' hne2
  rw [hm3] at p5 hna' hna2
  rw [hL1] at q3
  rw [hM1] at p3
  rw [hn2, hn3, hm2, hm3, hL1, hM1]
  subst hmn2 hmn3
  clear hn2 hn3 hm2 hm3 hL1 hM1 hne hna z0 y0 z1 y1 hr hr' hD hE hf i1 j1 j2 j3 HNE HNA
  have i2' : (m2 : Int) ≤ 1048576 := by omega
  have i3' : (m3 : Int) ≤ 1048576 := by omega
  go_wp2
  go_loopw [5] (fun i wr => ∃ k d : Nat, k ≤ m2 ∧ i = .int .i64 k ∧ wr = w1.drewN d ∧ Hid (∀ j, (h : j < D.ents.length) → (h' : j < E.ents.length) → j < k → D.ents[j] = E.ents[j])) (fun i _ => m2 - (intOf i).toNat)
  case atStart => exact ⟨0, 0, Nat.zero_le _, rfl, rfl, fun j _ _ hj => by omega⟩
  case round =>
    obtain ⟨k, d, hk, rfl, hwr0, hall⟩ := hrel
    have hwr : Hid (wr = w1.drewN d) := hwr0
    have hcells : ∀ p, wr.cell? p = w1.cell? p := fun p => by rw [hwr0]; rfl
    clear hwr0
    have q4' := q4
    have q5' := q5
    have p4' := p4
    have p5' := p5
    rw [← hcells] at q4' q5' p4' p5'
    by_cases hkn : k < m2
    · have hkl : k < D.ents.length := by rw [K2.out]; exact hkn
      have hkl' : k < E.ents.length := by rw [K2'.out]; exact hkn
      have hki : (k : Int) < (m2 : Int) := by omega
      obtain ⟨b, off, rfl, hlt, hc⟩ := RdP.lt HRE.out.1 (by intro h; have := congrArg List.length h; rw [eP_length] at this; simp at this; rw [this] at hkl; simp at hkl)
      obtain ⟨b', off', rfl, hlt', hc'⟩ := RdP.lt HRE.out.2 (by intro h; have := congrArg List.length h; rw [eP_length] at this; simp at this; rw [this] at hkl'; simp at hkl')
      have hx := hc k (by rw [eP_length]; exact hkl)
      have hy := hc' k (by rw [eP_length]; exact hkl')
      rw [eP_at _ k hkl] at hx
      rw [eP_at _ k hkl'] at hy
      clear hc hc'
      have hpe := pairE_eq D.ents[k] E.ents[k]
      have hyes : D.ents[k] = E.ents[k] → ∀ j, (h : j < D.ents.length) → (h' : j < E.ents.length) → j < k + 1 → D.ents[j] = E.ents[j] := by
        intro e j h h' hj
        rcases (show j < k ∨ j = k by omega) with hj | rfl
        · exact hall.out j h h' hj
        · exact e
      have hno : D.ents[k] ≠ E.ents[k] → sameOf D E = false := fun e => by
        rw [hf2.out, decide_eq_false (fun e' => e (getElem_congr_coll e') : ¬ D.ents = E.ents)]
        rfl
      obtain ⟨z, hz⟩ : ∃ z, D.ents[k].1 = z := ⟨_, rfl⟩
      obtain ⟨u, hu⟩ : ∃ u, D.ents[k].2 = u := ⟨_, rfl⟩
      obtain ⟨z', hz'⟩ : ∃ z, E.ents[k].1 = z := ⟨_, rfl⟩
      obtain ⟨u', hu'⟩ : ∃ u, E.ents[k].2 = u := ⟨_, rfl⟩
      rw [hz, hu] at hx
      rw [hz', hu'] at hy
      rw [hz, hz', hu, hu'] at hpe
      obtain ⟨x1, x2⟩ := hx
      obtain ⟨y1, y2⟩ := hy
      dsimp only at x1 x2 y1 y2
      rw [← hcells] at x1 x2 y1 y2
      have hneq := neqEnt z z' u u'
      have hgd := guardEnt .neq
      rw [hpe] at hneq
      by_cases heq : D.ents[k] = E.ents[k]
      · rw [decide_eq_true heq] at hneq
        have hnx : Hid _ := hyes heq
        clear hno hyes hpe hz hz' hu hu' heq hcells hall hkl hkl'
        go_wp2
        go_quiet (fail)
        go_wp2
        go_roundw
        case rel => exact ⟨k + 1, d + nq, by omega, by go_num, by rw [hwr.out, World.drewN_drewN], hnx⟩
        case measure => simp [intOf]; omega
      · rw [decide_eq_false heq] at hneq
        have hfin : Hid _ := hno heq
        clear hno hyes hpe hz hz' hu hu' heq hcells hall hkl hkl'
        go_wp2
        go_quiet (fail)
        go_wp2
        go_ret
        exact ⟨ret_bool hfin.out.symm, by rw [hwr.out, World.drewN_drewN]; exact below_drewN B1 _⟩
    · have hki : ¬ (k : Int) < (m2 : Int) := by omega
      have heq : decide (D.ents = E.ents) = true := decide_eq_true (List.ext_getElem (by rw [K2.out, K2'.out]) (fun j h h' => hall.out j h h' (by rw [K2.out] at h; omega)))
      clear hcells hall
      have hf3 : Hid (sameOf D E = decide (D.attrs = E.attrs)) := by show _ = _; rw [hf2.out, heq]; rfl
      clear heq
      go_wp2
      clear q4' q5' p4' p5' hki hk
      go_loopw [6] (fun i wr => ∃ k d : Nat, k ≤ m3 ∧ i = .int .i64 k ∧ wr = w1.drewN d ∧ Hid (∀ j, (h : j < D.attrs.length) → (h' : j < E.attrs.length) → j < k → D.attrs[j] = E.attrs[j])) (fun i _ => m3 - (intOf i).toNat)
      case atStart => exact ⟨0, d, Nat.zero_le _, rfl, hwr.out, fun j _ _ hj => by omega⟩
      case round =>
        obtain ⟨k, d, hk, rfl, hwr0, hall⟩ := hrel
        have hwr : Hid (wr = w1.drewN d) := hwr0
        have hcells : ∀ p, wr.cell? p = w1.cell? p := fun p => by rw [hwr0]; rfl
        clear hwr0
        have q4' := q4
        have q5' := q5
        have p4' := p4
        have p5' := p5
        rw [← hcells] at q4' q5' p4' p5'
        by_cases hkn : k < m3
        · have hkl : k < D.attrs.length := by rw [K3.out]; exact hkn
          have hkl' : k < E.attrs.length := by rw [K3'.out]; exact hkn
          have hki : (k : Int) < (m3 : Int) := by omega
          obtain ⟨b, off, rfl, hlt, hc⟩ := RdP.lt HRA.out.1 (by intro h; have := congrArg List.length h; rw [aP_length] at this; simp at this; rw [this] at hkl; simp at hkl)
          obtain ⟨b', off', rfl, hlt', hc'⟩ := RdP.lt HRA.out.2 (by intro h; have := congrArg List.length h; rw [aP_length] at this; simp at this; rw [this] at hkl'; simp at hkl')
          have hx := hc k (by rw [aP_length]; exact hkl)
          have hy := hc' k (by rw [aP_length]; exact hkl')
          rw [aP_at _ k hkl] at hx
          rw [aP_at _ k hkl'] at hy
          clear hc hc'
          have hpe := pairA_eq D.attrs[k] E.attrs[k]
          have hyes : D.attrs[k] = E.attrs[k] → ∀ j, (h : j < D.attrs.length) → (h' : j < E.attrs.length) → j < k + 1 → D.attrs[j] = E.attrs[j] := by
            intro e j h h' hj
            rcases (show j < k ∨ j = k by omega) with hj | rfl
            · exact hall.out j h h' hj
            · exact e
          have hno : D.attrs[k] ≠ E.attrs[k] → sameOf D E = false := fun e => by
            rw [hf3.out, decide_eq_false (fun e' => e (getElem_congr_coll e') : ¬ D.attrs = E.attrs)]

          obtain ⟨z, hz⟩ : ∃ z, D.attrs[k].1 = z := ⟨_, rfl⟩
          obtain ⟨u, hu⟩ : ∃ u, D.attrs[k].2 = u := ⟨_, rfl⟩
          obtain ⟨z', hz'⟩ : ∃ z, E.attrs[k].1 = z := ⟨_, rfl⟩
          obtain ⟨u', hu'⟩ : ∃ u, E.attrs[k].2 = u := ⟨_, rfl⟩
          rw [hz, hu] at hx
          rw [hz', hu'] at hy
          rw [hz, hz', hu, hu'] at hpe
          obtain ⟨x1, x2⟩ := hx
          obtain ⟨y1, y2⟩ := hy
          dsimp only at x1 x2 y1 y2
          rw [← hcells] at x1 x2 y1 y2
          have hneq := neqAttr z z' u u'
          have hgd := guardAttr .neq
          rw [hpe] at hneq
          by_cases heq : D.attrs[k] = E.attrs[k]
          · rw [decide_eq_true heq] at hneq
            have hnx : Hid _ := hyes heq
            clear hno hyes hpe hz hz' hu hu' heq hcells hall hkl hkl'
            go_wp2
            go_quiet (fail)
            go_wp2
            go_roundw
            case rel => exact ⟨k + 1, d + nq, by omega, by go_num, by rw [hwr.out, World.drewN_drewN], hnx⟩
            case measure => simp [intOf]; omega
          · rw [decide_eq_false heq] at hneq
            have hfin : Hid _ := hno heq
            clear hno hyes hpe hz hz' hu hu' heq hcells hall hkl hkl'
            go_wp2
            go_quiet (fail)
            go_wp2
            go_ret
            exact ⟨ret_bool hfin.out.symm, by rw [hwr.out, World.drewN_drewN]; exact below_drewN B1 _⟩
        · have hki : ¬ (k : Int) < (m3 : Int) := by omega
          have heq : decide (D.attrs = E.attrs) = true := decide_eq_true (List.ext_getElem (by rw [K3.out, K3'.out]) (fun j h h' => hall.out j h h' (by rw [K3.out] at h; omega)))
          clear hcells hall
          have hfin : Hid (sameOf D E = true) := by show _ = _; rw [hf3.out]; exact heq
          go_wp2
          go_ret
          exact ⟨ret_bool hfin.out.symm, by rw [hwr.out]; exact below_drewN B1 _⟩
end Go.Proofs.Ytfjlemnohjnkhaa
