/-
  Joined: CodeI, EntOfI, LeadsI, WalkI, StatI, ReadI.
-/
import Derived.Test.YtbjfihabkpianaaGreatDoorJ24E
namespace Go.Proofs.YtbjfihabkpianaaGreatDoor
section
open Go.RowKit
/-- A code as an error. -/
def errV (c : Int) : Value := if c = 0 then .nilIface else .iface 139 (.int .i64 c)
theorem errV_zero : errV 0 = .nilIface := rfl
theorem errV_some {c : Int} (h : c ≠ 0) : errV c = .iface 139 (.int .i64 c) := if_neg h
theorem EtCell.keep {w w' : World} (h : EtCell w) (hb : Below w.heap.size w w') : EtCell w' := by
  have hlt : 0 < w.heap.size := by
    rcases Nat.eq_zero_or_pos w.heap.size with h0 | h1
    · have h' : w.cell? ⟨0, 0, none⟩ = _ := h
      simp [World.cell?, h0] at h'
    · exact h1
  exact (hb.cell (p := ⟨0, 0, none⟩) hlt).trans h
set_option maxRecDepth 100000 in
set_option maxHeartbeats 1000000 in
theorem codeOfI (c : Int) (w : World) (hg : EtCell w) :
    Calls Tryz.prog 72 #[errV c] w fun e w' => e = .returned (.int .i64 c) ∧ Below w.heap.size w w' := by
  have B0 : Below w.heap.size w (w.alloc (.cells #[.int .i64 0] 139)) := (Below.refl _ w).alloc (Nat.le_refl _) _
  by_cases h0 : c = 0
  · subst h0
    rw [errV_zero]
    go_enter Tryz.func72, Tryz.ntmps72
    go_wp2_with fail
    (with_reducible refine (as_nil _ _).mono ?_)
    rintro e w1 ⟨rfl, hw⟩
    obtain rfl := hw.symm
    go_wp2
    go_ret
    exact ⟨rfl, B0⟩
  · rw [errV_some h0]
    have z0 := Blk.new w 139 #[.int .i64 0]
    have t0 : (w.alloc (.cells #[.int .i64 0] 139)).cell? ⟨w.heap.size, 0, none⟩ = some (.int .i64 0) := z0.cell 0
    have f0 := z0.frozen 0
    have hA := as_hit c ⟨w.heap.size, 0, none⟩ (.int .i64 0) _ (hg.keep B0) t0 f0
    go_enter Tryz.func72, Tryz.ntmps72
    go_wp2_with fail
    (with_reducible refine hA.mono ?_)
    rintro e w1 ⟨rfl, hw⟩
    obtain ⟨W, hW⟩ : ∃ W, ((((w.alloc (.cells #[.int .i64 0] 139)).alloc (.cells #[.pointer (some ⟨w.heap.size, 0, none⟩)] 147)).alloc (.cells #[.pointer (some ⟨2, 147, none⟩), .pointer (some ⟨(w.alloc (.cells #[.int .i64 0] 139)).heap.size, 0, none⟩), .int .u64 150] 188)).alloc (.cells #[.pointer (some ⟨2, 147, none⟩), .pointer (some ⟨(w.alloc (.cells #[.int .i64 0] 139)).heap.size, 0, none⟩), .int .u64 150] 188)).alloc (.cells #[.int .i64 c] 139) = W := ⟨_, rfl⟩
    rw [hW] at hw
    have BW : Below w.heap.size w W := by
      rw [← hW]
      exact (((B0.alloc B0.size _).alloc (by simp; omega) _).alloc (by simp; omega) _).alloc (by simp; omega) _
    have zW : Blk W w.heap.size 139 #[.int .i64 0] := by
      rw [← hW]
      exact (((z0.alloc _).alloc _).alloc _).alloc _
    have zF := zW.set 0 (.int .i64 c)
    have r0 := zF.cell 0
    simp at r0
    have hgr := gr_setC W w.heap.size 0 (.int .i64 c)
    have hend : Hid (Below w.heap.size w (W.setCell ⟨w.heap.size, 0, none⟩ (.int .i64 c))) := BW.grown hgr BW.size (fun j hj => by simp at hj; omega)
    subst hw
    clear hW hA zW zF hgr BW z0 t0 f0 B0
    go_wp2
    go_ret
    exact ⟨rfl, hend.out⟩
end

section
open Go.RowKit
set_option maxHeartbeats 1600000 in
theorem entOfI (D : InoD) (a1 a2 a3 : Option Addr) (c1 c2 c3 : Nat) (nm : ByteArray) (w : World) (h2 : D.ents.length ≤ 1048576) (hr : InoRd w D a1 a2 a3) :
    Calls Tryz.prog 165 #[inoV D a1 c1 a2 c2 a3 c3, .string nm] w fun e w' => e = .returned (.int .i64 (entOf nm D.ents)) ∧ Below w.heap.size w w' := by
  obtain ⟨ino, kind, links, data, ents, attrs⟩ := D
  obtain ⟨n1, hn1⟩ : ∃ n, data.length = n := ⟨_, rfl⟩
  obtain ⟨n2, hn2⟩ : ∃ n, ents.length = n := ⟨_, rfl⟩
  obtain ⟨n3, hn3⟩ : ∃ n, attrs.length = n := ⟨_, rfl⟩
  dsimp only at h2
  unfold inoV
  dsimp only
  rw [hn2] at h2
  simp only [hn1, hn2, hn3]
  have k2 : Hid (ents.length = n2) := hn2
  clear hn1 hn2 hn3
  obtain ⟨_, _, r3, _⟩ := hr
  dsimp only at r3
  have B0 : Below w.heap.size w (w.alloc (.cells #[.int .i64 ino, .int .i64 kind, .int .i64 links, .slice a1 n1 c1, .slice a2 n2 c2, .slice a3 n3 c3] 68)) := (Below.refl _ w).alloc (Nat.le_refl _) _
  have HB : Hid _ := B0
  by_cases h0 : n2 = 0
  · subst h0
    obtain rfl : ents = [] := List.length_eq_zero_iff.1 k2.out
    go_enter Tryz.func165, Tryz.ntmps165
    go_wp2
    refine wp_loop_rounds 1 ?_; rw [rounds_succ]
    go_wp2
    go_ret
    exact ⟨rfl, HB.out⟩
  · have hne : eP ents ≠ [] := by intro h; have := congrArg List.length h; rw [eP_length, k2.out] at this; simp at this; omega
    obtain ⟨b, off, rfl, hlt, hc⟩ := r3.lt hne
    have HC : Hid _ := hc
    clear r3 hne hc B0
    go_enter Tryz.func165, Tryz.ntmps165
    go_wp2
    go_loopw [10] (fun i wr => ∃ k : Nat, k ≤ n2 ∧ i = .int .i64 k ∧ Below w.heap.size w wr ∧ Hid (entOf nm ents = entOf nm (ents.drop k))) (fun i _ => n2 - (intOf i).toNat)
    case atStart => exact ⟨0, Nat.zero_le _, rfl, HB.out, rfl⟩
    case round =>
      obtain ⟨k, hk, rfl, hB, he⟩ := hrel
      by_cases hkn : k < n2
      · have hkl : k < ents.length := by rw [k2.out]; exact hkn
        have hki : (k : Int) < (n2 : Int) := by omega
        have hx := HC.out k (by rw [eP_length]; exact hkl)
        rw [eP_at ents k hkl] at hx
        have hd := entOf_drop nm ents k hkl
        obtain ⟨z, hz⟩ : ∃ z, ents[k].1 = z := ⟨_, rfl⟩
        obtain ⟨u, hu⟩ : ∃ u, ents[k].2 = u := ⟨_, rfl⟩
        rw [hz, hu] at hx hd
        have x1 : wr.cell? ⟨b, off + k * 2, none⟩ = _ := (hB.cell (by exact hlt)).trans hx.1
        have x2 : wr.cell? ⟨b, off + k * 2 + 1, none⟩ = _ := (hB.cell (by exact hlt)).trans hx.2
        dsimp only at x1 x2
        have hbs := hB.size
        by_cases hzn : z = nm
        · have hend : Hid (entOf nm ents = u) := by show _ = _; rw [he.out, hd, if_pos hzn]
          subst hzn
          clear hd hz hu hkl he hx
          go_wp2
          go_ret
          exact ⟨by rw [hend.out]; rfl, hB.alloc hbs _⟩
        · have hb := bytes_ne hzn
          have hnx : Hid (entOf nm ents = entOf nm (ents.drop (k + 1))) := by show _ = _; rw [he.out, hd, if_neg hzn]
          clear hd hz hu hkl he hx
          go_wp2
          go_roundw
          case rel => exact ⟨k + 1, by omega, by go_num, hB.alloc hbs _, hnx⟩
          case measure => simp [intOf]; omega
      · have hki : ¬ (k : Int) < (n2 : Int) := by omega
        have hend : Hid (entOf nm ents = 0) := by show _ = _; rw [he.out, List.drop_of_length_le (by rw [k2.out]; omega)]; rfl
        go_wp2
        go_ret
        exact ⟨by rw [hend.out]; rfl, hB⟩
end

section
open Go.RowKit
/-- What a name leads to, and a code. -/
def leadE (D : InoD) (nm : ByteArray) : Int × Int := if D.kind = 2 then (if entOf nm D.ents = 0 then (0, 2) else (entOf nm D.ents, 0)) else (0, 3)
theorem walkD_lead (ds : List InoD) (x : Int) (nm : ByteArray) (l : List ByteArray) (D : InoD) (h : look ds x = some D) : walkD ds x (nm :: l) = if (leadE D nm).2 = 0 then walkD ds (leadE D nm).1 l else (0, (leadE D nm).2) := by
  rw [walkD, h]
  dsimp only
  unfold leadE
  by_cases hk : D.kind = 2
  · rw [if_pos hk, if_pos hk]
    by_cases h0 : entOf nm D.ents = 0
    · rw [if_pos h0, if_pos h0]
      simp
    · rw [if_neg h0, if_neg h0]
      simp
  · rw [if_neg hk, if_neg hk]
    simp
set_option maxRecDepth 100000 in
set_option maxHeartbeats 1000000 in
theorem leadsI (D : InoD) (a1 a2 a3 : Option Addr) (c1 c2 c3 : Nat) (nm : ByteArray) (w : World) (hk : D.kind = 1 ∨ D.kind = 2) (h2 : D.ents.length ≤ 1048576) (hr : InoRd w D a1 a2 a3) :
    Calls Tryz.prog 113 #[.agg #[.int .i64 D.ino, .int .i64 D.kind, .int .i64 D.links, .slice a1 D.data.length c1, .slice a2 D.ents.length c2, .slice a3 D.attrs.length c3], .string nm] w fun e w' => e = .returned (.tuple #[.int .i64 (leadE D nm).1, errV (leadE D nm).2]) ∧ Below w.heap.size w w' := by
  have B0 : Below w.heap.size w (w.alloc (.cells #[.int .i64 D.ino, .int .i64 D.kind, .int .i64 D.links, .slice a1 D.data.length c1, .slice a2 D.ents.length c2, .slice a3 D.attrs.length c3] 68)) := (Below.refl _ w).alloc (Nat.le_refl _) _
  have hcE := entOfI D a1 a2 a3 c1 c2 c3 nm _ h2 (hr.keep B0)
  unfold inoV at hcE
  rcases hk with hk | hk
  · have hl : leadE D nm = (0, 3) := by unfold leadE; rw [hk]; simp
    rw [hl, errV_some (by decide)]
    clear hcE hl
    rw [hk] at B0 ⊢
    go_enter Tryz.func113, Tryz.ntmps113
    go_wp2
    refine bodyPost_ret (v := .tuple #[.int .i64 0, .iface 139 (.int .i64 3)]) (by simp [results, Tryz.f113, go_sem]) rfl ?_
    exact ⟨rfl, B0⟩
  · have hl : leadE D nm = if entOf nm D.ents = 0 then (0, 2) else (entOf nm D.ents, 0) := by unfold leadE; rw [if_pos hk]
    rw [hl]
    rw [hk] at B0 hcE ⊢
    generalize entOf nm D.ents = u at hcE ⊢
    clear hl hk
    by_cases hu : u = 0
    · subst hu
      rw [if_pos rfl, errV_some (by decide)]
      go_enter Tryz.func113, Tryz.ntmps113
      go_wp2_with fail
      (with_reducible refine hcE.mono ?_)
      rintro e w1 ⟨rfl, b1⟩
      have B1 := B0.trans (b1.mono B0.size)
      clear hcE
      go_wp2
      refine bodyPost_ret (v := .tuple #[.int .i64 0, .iface 139 (.int .i64 2)]) (by simp [results, Tryz.f113, go_sem]) rfl ?_
      exact ⟨rfl, B1⟩
    · have hub : (u == 0) = false := by simpa using hu
      rw [if_neg hu, errV_zero]
      go_enter Tryz.func113, Tryz.ntmps113
      go_wp2_with fail
      (with_reducible refine hcE.mono ?_)
      rintro e w1 ⟨rfl, b1⟩
      have B1 := B0.trans (b1.mono B0.size)
      clear hcE
      go_wp2
      refine bodyPost_ret (v := .tuple #[.int .i64 u, .nilIface]) (by simp [results, Tryz.f113, go_sem]) rfl ?_
      exact ⟨rfl, B1⟩
end

section
open Go.RowKit Go.Maps
theorem ret_ie {a b c d : Int} (h : (a, b) = (c, d)) : Ending.returned (.tuple #[.int .i64 a, errV b]) = .returned (.tuple #[.int .i64 c, errV d]) := by
  rw [Prod.mk.injEq] at h
  rw [h.1, h.2]
theorem lead_code {D : InoD} {nm : ByteArray} : (leadE D nm).2 = 0 ∨ (leadE D nm).2 = 2 ∨ (leadE D nm).2 = 3 := by
  unfold leadE
  split
  · split
    · exact .inr (.inl rfl)
    · exact .inl rfl
  · exact .inr (.inr rfl)
theorem lead_wf {D : InoD} {nm : ByteArray} (h : ∀ e ∈ D.ents, (Lit.int .i64 e.2).wf = true) : (Lit.int .i64 (leadE D nm).1).wf = true := by
  have hz : (Lit.int .i64 0).wf = true := by decide
  unfold leadE
  split
  · split
    · exact hz
    · generalize hE : D.ents = es at h
      clear hE
      induction es with
      | nil => exact hz
      | cons q r ih =>
        show (Lit.int .i64 (entOf nm (q :: r))).wf = true
        rw [entOf]
        split
        · exact h q (List.mem_cons_self ..)
        · exact ih (fun e he => h e (List.mem_cons_of_mem _ he))
  · exact hz
theorem look_fst {rs : List InoR} {x : Int} {p : Nat} {r : InoR} (h : firstAt (inos rs) x = some p) (hr : rs[p]? = some r) : look (rs.map InoR.D) x = some r.D := by
  have h1 := atD_look rs x
  unfold atD at h1
  rw [h] at h1
  simp only [List.getD_eq_getElem?_getD, hr, Option.getD_some] at h1
  cases hl : look (rs.map InoR.D) x with
  | none =>
    have h2 := atB_look rs x
    unfold atB at h2
    rw [h, hl] at h2
    simp at h2
  | some D =>
    rw [hl] at h1
    simp at h1
    rw [h1]
theorem look_fst_none {rs : List InoR} {x : Int} (h : firstAt (inos rs) x = none) : look (rs.map InoR.D) x = none := by
  have h2 := atB_look rs x
  unfold atB at h2
  rw [h] at h2
  simpa using h2.symm
set_option maxRecDepth 100000 in
set_option maxHeartbeats 4000000 in
theorem walkI (a : Option Addr) (n cap : Nat) (nx : Int) (rs : List InoR) (s : ByteArray) (w : World) (ht : TR w a n rs) (hK : ∀ r ∈ rs, r.D.kind = 1 ∨ r.D.kind = 2) (hwf : ∀ r ∈ rs, (Lit.int .i64 r.D.ino).wf = true) (hwe : ∀ r ∈ rs, ∀ e ∈ r.D.ents, (Lit.int .i64 e.2).wf = true) (hs : s.size ≤ 4000000) :
    Calls Tryz.prog 79 #[.agg #[.slice a n cap, .int .i64 nx], .string s] w fun e w' => e = .returned (.tuple #[.int .i64 (walkP (rs.map InoR.D) s).1, errV (walkP (rs.map InoR.D) s).2]) ∧ Below w.heap.size w w' := by
  have B0 : Below w.heap.size w (w.alloc (.cells #[.slice a n cap, .int .i64 nx] 47)) := (Below.refl _ w).alloc (Nat.le_refl _) _
  have z0 := Blk.new w 47 #[.slice a n cap, .int .i64 nx]
  have ht0 := ht.keep B0
  obtain ⟨R1, R2, hR⟩ : ∃ R1 R2, walkP (rs.map InoR.D) s = (R1, R2) := ⟨_, _, rfl⟩
  have HR : Hid _ := hR
  rw [hR]
  dsimp only
  go_enter Tryz.func79, Tryz.ntmps79
  go_wp2_with fail
  obtain ⟨W0, hW0⟩ : ∃ W, w.alloc (.cells #[.slice a n cap, .int .i64 nx] 47) = W := ⟨_, rfl⟩
  rw [hW0] at B0 z0 ht0 ⊢
  clear hW0 ht hR
  refine (splitI s W0 hs).mono ?_
  rintro e w1 ⟨b1, hcase⟩
  rcases hcase with ⟨hn, aa, cc, rfl⟩ | ⟨zs, g, c, hz, rfl, hg, ho⟩
  · have hend : Hid ((0, 1) = (R1, R2)) := by show _ = _; rw [← HR.out, walkP_none hn]
    have HB : Hid _ := B0.trans (b1.mono B0.size)
    clear b1 hn ht0 z0
    go_wp2
    go_ret2
    exact ⟨(ret_ie hend.out : Ending.returned (.tuple #[.int .i64 0, errV 1]) = _), HB.out⟩
  · have hzl : zs.length ≤ 30 := by
      have := good_len (split_good hz)
      simpa [strs_length] using this
    obtain ⟨m, hm⟩ : ∃ m, zs.length = m := ⟨_, rfl⟩
    rw [hm] at hzl ho ⊢
    have HM0 : Hid _ := hm
    have hW1 : Hid (walkD (rs.map InoR.D) 1 (zs.drop 0) = (R1, R2)) := by show _ = _; rw [← HR.out, walkP_some hz]; rfl
    have zb := z0.keep b1
    have zt0 := zb.cell 0
    have zt1 := zb.cell 1
    simp at zt0 zt1
    have ht1 := ht0.keep b1
    have hcB := byNumber_any a n cap nx rs w1 ht1.len (by have := ht1.n; omega) hwf ht1.rd
    have HB1 : Hid _ := B0.trans (b1.mono B0.size)
    have hrs : RdS w1 (some ⟨g, 0, none⟩) zs := ho.rd
    have HK : Hid _ := hK
    have HE : Hid _ := hwe
    have HT1 : Hid _ := ht1
    have HZB : Hid _ := zb
    have HRS : Hid _ := hrs
    clear b1 hz ht0 z0 ho B0 hm ht1 zb hrs hK hwe hwf
    go_wp2_with fail
    (with_reducible refine hcB.mono ?_)
    rintro e w2 ⟨cnt, Dp, rfl, hcnt, hM, hown, b2⟩
    obtain ⟨pm, hpm⟩ : ∃ pm, w1.heap.size + 1 = pm := ⟨_, rfl⟩
    rw [hpm] at hown ⊢
    have HM : Hid _ := hM
    have HO : Hid _ := hown
    have HB2 : Hid _ := HB1.out.trans (b2.mono HB1.out.size)
    have HT2 : Hid _ := HT1.out.keep b2
    have HZ2 : Hid _ := Blk.keep HZB.out b2
    have HS2 : Hid _ := RdS.keep HRS.out b2
    clear hcB hM hown b2 hpm zt0 zt1 HT1 HZB HRS HB1
    go_wp2
    go_loopw [9, 28] (fun y i wr => ∃ (k : Nat) (x : Int), k ≤ m ∧ i = .int .i64 k ∧ y = .int .i64 x ∧ Hid ((Lit.int .i64 x).wf = true) ∧ Hid (walkD (rs.map InoR.D) x (zs.drop k) = (R1, R2)) ∧ Hid (Below w2.heap.size w2 wr)) (fun _ i _ => m - (intOf i).toNat)
    case atStart => exact ⟨0, 1, Nat.zero_le _, rfl, rfl, (by decide : (Lit.int .i64 1).wf = true), hW1, Below.refl _ _⟩
    case round =>
      obtain ⟨k, x, hk, rfl, rfl, hwx, hwk, hB⟩ := hrel
      clear hW1
      have HBW : Hid (Below w.heap.size w wr) := HB2.out.trans (hB.out.mono HB2.out.size)
      by_cases hkm : k < m
      · have hki : (k : Int) < (m : Int) := by omega
        have hk0 : (0 : Int) ≤ (k : Int) := by omega
        have hkl : k < zs.length := by rw [HM0.out]; exact hkm
        have hwk' := hwk.out
        rw [List.drop_eq_getElem_cons hkl] at hwk'
        obtain ⟨b', off', hab, hlt', hcs⟩ := RdS.lt (RdS.keep HS2.out hB.out) (by intro h; rw [h] at hkl; simp at hkl)
        simp only [Option.some.injEq, Addr.mk.injEq, and_true] at hab
        obtain ⟨rfl, rfl⟩ := hab
        have n0 := hcs k hkl
        rw [List.getD_eq_getElem?_getD, List.getElem?_eq_getElem hkl, Option.getD_some] at n0
        obtain ⟨nm, hnm⟩ : ∃ nm, zs[k] = nm := ⟨_, rfl⟩
        rw [hnm] at n0 hwk'
        simp only [Nat.zero_add] at n0
        have hkey : keyOf Tryz.prog 3 (.int .i64 x) = some (.int .i64 x) := keyOf_int_mk Tryz.underlying3 hwx.out
        have hplt := World.ownsMap.lt HO.out
        have hpw : wr.ownsMap Tryz.prog 3 (plainElem Tryz.prog 3) pm cnt Dp := by
          obtain ⟨es, clock, hb, Ft, hs, hD⟩ := HO.out
          exact ⟨es, clock, (hB.out.block pm hplt).trans hb, Ft, hs, hD⟩
        have hMx := HM.out.2 x
        clear hcs hnm hkl hlt' hplt hwk
        cases hfa : firstAt (inos rs) x with
        | none =>
          have hhas : Maps.has Dp (.int .i64 x) = false := by rw [hMx.1, hfa]; rfl
          have hend : Hid ((0, 2) = (R1, R2)) := by
            show _ = _
            rw [← hwk', walkD, look_fst_none hfa]
          clear hMx hwk'
          go_wp2_with (first
            | (at_lookup; refine wpList_lookup_own_ok_int _ rfl _ _ 157 rfl 3 3 .i64 Tryz.keyInt Tryz.underlying157 Tryz.underlying3 (Tryz.zeroInt _) pm cnt Dp rfl hpw _ _ rfl hkey ?_; intro c hat hwc; rw [hhas])
            | go_in)
          go_ret2
          exact ⟨(ret_ie hend.out : Ending.returned (.tuple #[.int .i64 0, errV 2]) = _), HBW.out⟩
        | some p =>
          have hhas : Maps.has Dp (.int .i64 x) = true := by rw [hMx.1, hfa]; rfl
          have hat0 := hMx.2 p hfa
          have hpl := firstAt_in hfa
          have hTr := HT2.out.keep hB.out
          obtain ⟨r, hrp⟩ : ∃ r, rs[p]? = some r := ⟨_, List.getElem?_eq_getElem hpl⟩
          have hpn : p < n := by have := hTr.len; omega
          have hpi : (p : Int) < (n : Int) := by omega
          have hpp : (0 : Int) ≤ (p : Int) := by omega
          have hpq : ¬ (p : Int) < 0 := by omega
          have hmem := List.mem_of_getElem? hrp
          rw [walkD_lead _ _ _ _ r.D (look_fst hfa hrp)] at hwk'
          have hwn : Hid _ := lead_wf (nm := nm) (HE.out r hmem)
          have hlc := lead_code (D := r.D) (nm := nm)
          obtain ⟨b, off, rfl, hlt, hc⟩ := RdI.lt hTr.rd (by intro h; rw [h] at hrp; simp at hrp)
          obtain ⟨⟨x0, x1, x2, x3, x4, x5⟩, xr⟩ := hc p r hrp
          have hcL := leadsI r.D r.a1 r.a2 r.a3 r.c1 r.c2 r.c3 nm wr (HK.out r hmem) (hTr.small r hmem).ents xr
          have t0 := (Blk.keep HZ2.out hB.out).cell 0
          simp at t0
          obtain ⟨u, hu⟩ : ∃ u, (leadE r.D nm).1 = u := ⟨_, rfl⟩
          obtain ⟨cd, hcd⟩ : ∃ cd, (leadE r.D nm).2 = cd := ⟨_, rfl⟩
          rw [hu, hcd] at hcL hwk'
          rw [hu] at hwn
          rw [hcd] at hlc
          clear hMx hc hrp hmem hTr xr hfa hpl hu hcd
          generalize r.D.ino = i1 at x0 hcL
          generalize r.D.kind = i2 at x1 hcL
          generalize r.D.links = i3 at x2 hcL
          generalize r.D.data.length = n1 at x3 hcL
          generalize r.D.ents.length = n2 at x4 hcL
          generalize r.D.attrs.length = n3 at x5 hcL
          by_cases hc0 : cd = 0
          · subst hc0
            rw [if_pos rfl] at hwk'
            rw [errV_zero] at hcL
            have hnx : Hid _ := hwk'
            clear hwk' hlc
            go_wp2_with (first
              | (at_lookup; refine wpList_lookup_own_ok_int _ rfl _ _ 157 rfl 3 3 .i64 Tryz.keyInt Tryz.underlying157 Tryz.underlying3 (Tryz.zeroInt _) pm cnt Dp rfl hpw _ _ rfl hkey ?_; intro c hat hwc; rw [hhas]; rw [hat0] at hat; simp at hat; subst hat)
              | fail)
            (with_reducible refine hcL.mono ?_)
            rintro e w3 ⟨rfl, b3⟩
            have hB3 : Hid _ := hB.out.trans (b3.mono hB.out.size)
            clear hcL x0 x1 x2 x3 x4 x5 t0 n0 hpw hat0 hkey b3
            go_wp2
            go_roundw
            case rel => exact ⟨k + 1, u, by omega, by go_num, rfl, hwn, hnx, hB3⟩
            case measure => simp [intOf]; omega
          · rw [if_neg hc0] at hwk'
            rw [errV_some hc0] at hcL
            have hend : Hid ((0, cd) = (R1, R2)) := hwk'
            clear hwk' hlc
            go_wp2_with (first
              | (at_lookup; refine wpList_lookup_own_ok_int _ rfl _ _ 157 rfl 3 3 .i64 Tryz.keyInt Tryz.underlying157 Tryz.underlying3 (Tryz.zeroInt _) pm cnt Dp rfl hpw _ _ rfl hkey ?_; intro c hat hwc; rw [hhas]; rw [hat0] at hat; simp at hat; subst hat)
              | fail)
            (with_reducible refine hcL.mono ?_)
            rintro e w3 ⟨rfl, b3⟩
            have hB3 : Hid (Below w.heap.size w w3) := HBW.out.trans (b3.mono HBW.out.size)
            have hce : Hid (errV cd = .iface 139 (.int .i64 cd)) := errV_some hc0
            clear hcL x0 x1 x2 x3 x4 x5 t0 n0 hpw hat0 hkey b3
            go_wp2
            go_ret2
            rw [← hce.out]
            exact ⟨ret_ie hend.out, hB3.out⟩
      · have hki : ¬ (k : Int) < (m : Int) := by omega
        have hend : Hid ((x, 0) = (R1, R2)) := by
          show _ = _
          rw [← hwk.out, List.drop_of_length_le (by rw [HM0.out]; omega)]
          rfl
        go_wp2
        go_ret2
        exact ⟨(ret_ie hend.out : Ending.returned (.tuple #[.int .i64 x, errV 0]) = _), HBW.out⟩
end

section
open Go.RowKit
/-- An inode is answered, its lists in memory of its own, and a code. -/
def EStat (w : World) (D : InoD) (c : Int) (e : Ending) (w' : World) : Prop :=
  ∃ (b1 : Option Addr) (d1 : Nat) (b2 : Option Addr) (d2 : Nat) (b3 : Option Addr) (d3 : Nat), e = .returned (.tuple #[.agg #[.int .i64 D.ino, .int .i64 D.kind, .int .i64 D.links, .slice b1 D.data.length d1, .slice b2 D.ents.length d2, .slice b3 D.attrs.length d3], errV c]) ∧
    InoG w' w.heap.size w'.heap.size D (.slice b1 D.data.length d1) (.slice b2 D.ents.length d2) (.slice b3 D.attrs.length d3) ∧ Below w.heap.size w w'
theorem eStat_zero {w w' : World} {c : Int} {e : Ending} (he : e = .returned (.tuple #[.agg #[.int .i64 0, .int .i64 0, .int .i64 0, .slice none 0 0, .slice none 0 0, .slice none 0 0], errV c])) (hb : Below w.heap.size w w') : EStat w inoZ.D c e w' :=
  ⟨none, 0, none, 0, none, 0, he, inoG_zero _ _ _, hb⟩
theorem entOf_wf {nm : ByteArray} : ∀ {es : List (ByteArray × Int)}, (∀ e ∈ es, (Lit.int .i64 e.2).wf = true) → (Lit.int .i64 (entOf nm es)).wf = true
  | [], _ => (by decide : (Lit.int .i64 0).wf = true)
  | q :: r, h => by
    rw [entOf]
    split
    · exact h q (List.mem_cons_self ..)
    · exact entOf_wf (fun e he => h e (List.mem_cons_of_mem _ he))
theorem walkD_wf {ds : List InoD} (h : ∀ D ∈ ds, ∀ e ∈ D.ents, (Lit.int .i64 e.2).wf = true) : ∀ (l : List ByteArray) (x : Int), (Lit.int .i64 x).wf = true → (Lit.int .i64 (walkD ds x l).1).wf = true
  | [], x, hx => hx
  | nm :: l, x, hx => by
    have hz : (Lit.int .i64 0).wf = true := by decide
    rw [walkD]
    split
    · exact hz
    · rename_i D hD
      split
      · split
        · exact hz
        · exact walkD_wf h l _ (entOf_wf (h D (look_mem hD).1))
      · exact hz
theorem walkP_wf {ds : List InoD} (h : ∀ D ∈ ds, ∀ e ∈ D.ents, (Lit.int .i64 e.2).wf = true) (s : ByteArray) : (Lit.int .i64 (walkP ds s).1).wf = true := by
  unfold walkP
  split
  · decide
  · exact walkD_wf h _ 1 (by decide)
set_option maxRecDepth 100000 in
set_option maxHeartbeats 4000000 in
theorem statI (a : Option Addr) (n cap : Nat) (nx : Int) (rs : List InoR) (s : ByteArray) (w : World) (ht : TR w a n rs) (hK : ∀ r ∈ rs, r.D.kind = 1 ∨ r.D.kind = 2) (hwf : ∀ r ∈ rs, (Lit.int .i64 r.D.ino).wf = true) (hwe : ∀ r ∈ rs, ∀ e ∈ r.D.ents, (Lit.int .i64 e.2).wf = true) (hs : s.size ≤ 4000000) :
    Calls Tryz.prog 80 #[.agg #[.slice a n cap, .int .i64 nx], .string s] w fun e w' => EStat w (statD (rs.map InoR.D) s).1 (statD (rs.map InoR.D) s).2 e w' := by
  have B0 : Below w.heap.size w ((w.alloc (.cells #[.slice a n cap, .int .i64 nx] 47)).alloc (.cells #[.int .i64 0, .int .i64 0, .int .i64 0, .slice none 0 0, .slice none 0 0, .slice none 0 0] 68)) := ((Below.refl _ w).alloc (Nat.le_refl _) _).alloc (by simp) _
  have zT : Blk ((w.alloc (.cells #[.slice a n cap, .int .i64 nx] 47)).alloc (.cells #[.int .i64 0, .int .i64 0, .int .i64 0, .slice none 0 0, .slice none 0 0, .slice none 0 0] 68)) w.heap.size 47 #[.slice a n cap, .int .i64 nx] := (Blk.new w _ _).alloc _
  have zR := Blk.new (w.alloc (.cells #[.slice a n cap, .int .i64 nx] 47)) 68 #[.int .i64 0, .int .i64 0, .int .i64 0, .slice none 0 0, .slice none 0 0, .slice none 0 0]
  simp only [World.size_alloc] at zR
  have hsz : ((w.alloc (.cells #[.slice a n cap, .int .i64 nx] 47)).alloc (.cells #[.int .i64 0, .int .i64 0, .int .i64 0, .slice none 0 0, .slice none 0 0, .slice none 0 0] 68)).heap.size = w.heap.size + 1 + 1 := by simp
  obtain ⟨i, c, hW⟩ : ∃ i c, walkP (rs.map InoR.D) s = (i, c) := ⟨_, _, rfl⟩
  have hp : Hid (∀ (e : Ending) (w' : World) (D : InoD) (q : Int), statD (rs.map InoR.D) s = (D, q) → EStat w D q e w' → EStat w (statD (rs.map InoR.D) s).1 (statD (rs.map InoR.D) s).2 e w') := fun e w' D q h hh => by rw [h]; exact hh
  generalize EStat w (statD (rs.map InoR.D) s).1 (statD (rs.map InoR.D) s).2 = P at hp ⊢
  go_enter Tryz.func80, Tryz.ntmps80
  go_wp2_with fail
  obtain ⟨W0, hW0⟩ : ∃ W, ((w.alloc (.cells #[.slice a n cap, .int .i64 nx] 47)).alloc (.cells #[.int .i64 0, .int .i64 0, .int .i64 0, .slice none 0 0, .slice none 0 0, .slice none 0 0] 68)) = W := ⟨_, rfl⟩
  rw [hW0] at B0 zT zR hsz ⊢
  clear hW0
  have ht0 := ht.keep B0
  have hcW := walkI a n cap nx rs s W0 ht0 hK hwf hwe hs
  have hwi := walkP_wf (ds := rs.map InoR.D) (fun D hD => by obtain ⟨r, hr, rfl⟩ := List.mem_map.1 hD; exact hwe r hr) s
  rw [hW] at hwi
  have HWI : Hid _ := hwi
  clear hwi
  rw [hW] at hcW
  dsimp only at hcW
  have HW : Hid _ := hW
  clear hW ht
  (with_reducible refine hcW.mono ?_)
  rintro e w1 ⟨rfl, b1⟩
  clear hcW
  by_cases hc0 : c = 0
  · subst hc0
    rw [errV_zero]
    have zt := zT.keep b1
    have zt0 := zt.cell 0
    have zt1 := zt.cell 1
    simp at zt0 zt1
    have ht1 := ht0.keep b1
    have hcA := inodeAtI a n cap nx i rs w1 ht1.len (by have := ht1.n; omega) HWI.out hwf ht1.small ht1.rd
    have HG1 : Hid _ := And.intro (zR.keep b1) (And.intro (B0.trans (b1.mono B0.size)) b1.size)
    have HSZ : Hid _ := hsz
    clear zT zR B0 b1 zt ht0 ht1 hsz
    go_wp2_with fail
    (with_reducible refine hcA.mono ?_)
    rintro e w2 ⟨b1, d1, b2, d2, b3, d3, rfl, g2, bb2⟩
    have zr := Blk.keep HG1.out.1 bb2
    have hb2 := HG1.out.2.1.trans (bb2.mono HG1.out.2.1.size)
    have hs12 := bb2.size
    have hD := atD_look rs i
    have hB := atB_look rs i
    have hrl : w.heap.size + 1 < w1.heap.size := by have := HG1.out.2.2; have := HSZ.out; omega
    cases hl : look (rs.map InoR.D) i with
    | none =>
      rw [hl] at hD hB
      have e1 : atD rs i = inoZ.D := hD
      have e2 : atB rs i = false := hB
      rw [e1] at g2
      rw [e1, e2]
      have hst := statD_none HW.out hl
      dsimp only [inoZ, List.length_nil] at g2 ⊢
      have z3 := zr.alloc (.cells #[.int .i64 0, .int .i64 0, .int .i64 0, .slice b1 0 d1, .slice b2 0 d2, .slice b3 0 d3] 68)
      have hb3 := hb2.alloc hb2.size (.cells #[.int .i64 0, .int .i64 0, .int .i64 0, .slice b1 0 d1, .slice b2 0 d2, .slice b3 0 d3] 68)
      obtain ⟨t0, t1, t2, t3, t4, t5⟩ := z3.six
      have fz0 := z3.frozen 0
      have fz1 := z3.frozen 1
      have fz2 := z3.frozen 2
      have fz3 := z3.frozen 3
      have fz4 := z3.frozen 4
      have fz5 := z3.frozen 5
      have HS : Hid _ := hst
      have HG : Hid _ := And.intro z3 hb3
      clear hD hB e1 e2 hl hcA zt0 zt1 g2 hb2 zr bb2 z3 hb3 hst
      go_wp2
      have zf := ((((((show Blk (w2.alloc (.cells #[.int .i64 0, .int .i64 0, .int .i64 0, .slice b1 0 d1, .slice b2 0 d2, .slice b3 0 d3] 68)) (w.heap.size + 1) 68 _ from HG.out.1).set 0 (.int .i64 0)).set 1 (.int .i64 0)).set 2 (.int .i64 0)).set 3 (.slice none 0 0)).set 4 (.slice none 0 0)).set 5 (.slice none 0 0)
      have dd0 := zf.cell 0
      have dd1 := zf.cell 1
      have dd2 := zf.cell 2
      have dd3 := zf.cell 3
      have dd4 := zf.cell 4
      have dd5 := zf.cell 5
      simp at dd0 dd1 dd2 dd3 dd4 dd5
      refine bodyPost_ret (v := .tuple #[.agg #[.int .i64 0, .int .i64 0, .int .i64 0, .slice none 0 0, .slice none 0 0, .slice none 0 0], .iface 139 (.int .i64 2)]) (by simp [results, Tryz.f80, go_sem, dd0, dd1, dd2, dd3, dd4, dd5]) rfl ?_
      exact hp.out _ _ _ _ HS.out (eStat_zero rfl (at_stored HG.out.2 (inoG_zero _ (w.heap.size + 1 + 1) _) HG.out.1 (Nat.lt_succ_self _) _ _ _ _ _ _).2)
    | some D =>
      rw [hl] at hD hB
      have e1 : atD rs i = D := hD
      have e2 : atB rs i = true := hB
      rw [e1] at g2
      rw [e1, e2]
      have hst := statD_some HW.out hl
      have z3 := zr.alloc (.cells #[.int .i64 D.ino, .int .i64 D.kind, .int .i64 D.links, .slice b1 D.data.length d1, .slice b2 D.ents.length d2, .slice b3 D.attrs.length d3] 68)
      have hb3 := hb2.alloc hb2.size (.cells #[.int .i64 D.ino, .int .i64 D.kind, .int .i64 D.links, .slice b1 D.data.length d1, .slice b2 D.ents.length d2, .slice b3 D.attrs.length d3] 68)
      have g3 := (g2.keep (Nat.le_refl _) ((Below.refl _ w2).alloc (Nat.le_refl _) (.cells #[.int .i64 D.ino, .int .i64 D.kind, .int .i64 D.links, .slice b1 D.data.length d1, .slice b2 D.ents.length d2, .slice b3 D.attrs.length d3] 68))).wider (T' := (w2.alloc (.cells #[.int .i64 D.ino, .int .i64 D.kind, .int .i64 D.links, .slice b1 D.data.length d1, .slice b2 D.ents.length d2, .slice b3 D.attrs.length d3] 68)).heap.size) (Nat.le_refl _) (by simp)
      obtain ⟨t0, t1, t2, t3, t4, t5⟩ := z3.six
      have fz0 := z3.frozen 0
      have fz1 := z3.frozen 1
      have fz2 := z3.frozen 2
      have fz3 := z3.frozen 3
      have fz4 := z3.frozen 4
      have fz5 := z3.frozen 5
      have HS : Hid _ := hst
      have HG : Hid _ := And.intro z3 (And.intro hb3 g3)
      clear hD hB e1 e2 hl hcA zt0 zt1 g2 hb2 zr bb2 z3 hb3 hst g3
      go_wp2
      have zf := ((((((show Blk (w2.alloc (.cells #[.int .i64 D.ino, .int .i64 D.kind, .int .i64 D.links, .slice b1 D.data.length d1, .slice b2 D.ents.length d2, .slice b3 D.attrs.length d3] 68)) (w.heap.size + 1) 68 _ from HG.out.1).set 0 (.int .i64 D.ino)).set 1 (.int .i64 D.kind)).set 2 (.int .i64 D.links)).set 3 (.slice b1 D.data.length d1)).set 4 (.slice b2 D.ents.length d2)).set 5 (.slice b3 D.attrs.length d3)
      have dd0 := zf.cell 0
      have dd1 := zf.cell 1
      have dd2 := zf.cell 2
      have dd3 := zf.cell 3
      have dd4 := zf.cell 4
      have dd5 := zf.cell 5
      simp at dd0 dd1 dd2 dd3 dd4 dd5
      refine bodyPost_ret (v := .tuple #[.agg #[.int .i64 D.ino, .int .i64 D.kind, .int .i64 D.links, .slice b1 D.data.length d1, .slice b2 D.ents.length d2, .slice b3 D.attrs.length d3], .nilIface]) (by simp [results, Tryz.f80, go_sem, dd0, dd1, dd2, dd3, dd4, dd5]) rfl ?_
      have hfin := at_stored HG.out.2.1 HG.out.2.2 HG.out.1 hrl (.int .i64 D.ino) (.int .i64 D.kind) (.int .i64 D.links) (.slice b1 D.data.length d1) (.slice b2 D.ents.length d2) (.slice b3 D.attrs.length d3)
      exact hp.out _ _ _ _ HS.out ⟨b1, d1, b2, d2, b3, d3, rfl, hfin.1, hfin.2⟩
  · have hst := statD_bad HW.out hc0
    rw [errV_some hc0]
    have HC0 : Hid _ := errV_some hc0
    clear hc0
    have zr := zR.keep b1
    obtain ⟨t0, t1, t2, t3, t4, t5⟩ := zr.six
    have fz0 := zr.frozen 0
    have fz1 := zr.frozen 1
    have fz2 := zr.frozen 2
    have fz3 := zr.frozen 3
    have fz4 := zr.frozen 4
    have fz5 := zr.frozen 5
    have HS : Hid _ := hst
    have HG : Hid _ := And.intro zr (B0.trans (b1.mono B0.size))
    clear zr zR zT B0 b1 ht0 hst
    go_wp2
    have zf := ((((((show Blk w1 (w.heap.size + 1) 68 _ from HG.out.1).set 0 (.int .i64 0)).set 1 (.int .i64 0)).set 2 (.int .i64 0)).set 3 (.slice none 0 0)).set 4 (.slice none 0 0)).set 5 (.slice none 0 0)
    have dd0 := zf.cell 0
    have dd1 := zf.cell 1
    have dd2 := zf.cell 2
    have dd3 := zf.cell 3
    have dd4 := zf.cell 4
    have dd5 := zf.cell 5
    simp at dd0 dd1 dd2 dd3 dd4 dd5
    refine bodyPost_ret (v := .tuple #[.agg #[.int .i64 0, .int .i64 0, .int .i64 0, .slice none 0 0, .slice none 0 0, .slice none 0 0], .iface 139 (.int .i64 c)]) (by simp [results, Tryz.f80, go_sem, dd0, dd1, dd2, dd3, dd4, dd5]) rfl ?_
    exact hp.out _ _ _ _ HS.out (eStat_zero (by rw [HC0.out]) (at_stored HG.out.2 (inoG_zero w1 (w.heap.size + 1 + 1) w1.heap.size) HG.out.1 (Nat.lt_succ_self _) _ _ _ _ _ _).2)
end

section
open Go.RowKit
/-- What is read from the beginning on. -/
def readD (ds : List InoD) (s : ByteArray) (m : Nat) : List Int × Int :=
  if (statD ds s).2 ≠ 0 then ([], (statD ds s).2) else if (statD ds s).1.kind = 2 then ([], 3) else ((statD ds s).1.data.take m, 0)
/-- Bytes and an error. -/
def EBytes (w : World) (zs : List Int) (v : Value) (e : Ending) (w' : World) : Prop := ∃ a c, e = .returned (.tuple #[.slice a zs.length c, v]) ∧ Rd w' a zs ∧ Below w.heap.size w w'
set_option maxRecDepth 100000 in
set_option maxHeartbeats 8000000 in
theorem bytesI (a : Option Addr) (n cap : Nat) (nx : Int) (rs : List InoR) (s : ByteArray) (m : Nat) (w : World) (ht : TR w a n rs) (hK : ∀ r ∈ rs, r.D.kind = 1 ∨ r.D.kind = 2) (hwf : ∀ r ∈ rs, (Lit.int .i64 r.D.ino).wf = true) (hwe : ∀ r ∈ rs, ∀ e ∈ r.D.ents, (Lit.int .i64 e.2).wf = true) (hs : s.size ≤ 4000000) (hm : m ≤ 1000000) (hdl : (statD (rs.map InoR.D) s).1.data.length ≤ 1048576) :
    Calls Tryz.prog 77 #[.agg #[.slice a n cap, .int .i64 nx], .string s, .int .i64 0, .int .i64 (m : Int)] w fun e w' => EBytes w (readD (rs.map InoR.D) s m).1 (errV (readD (rs.map InoR.D) s m).2) e w' := by
  have B0 : Below w.heap.size w (w.alloc (.cells #[.slice a n cap, .int .i64 nx] 47)) := (Below.refl _ w).alloc (Nat.le_refl _) _
  obtain ⟨D, c, hDc⟩ : ∃ D c, statD (rs.map InoR.D) s = (D, c) := ⟨_, _, rfl⟩
  have hp : Hid (∀ (e : Ending) (w' : World) (z : List Int) (q : Int), (if c ≠ 0 then ([], c) else if D.kind = 2 then ([], 3) else (D.data.take m, 0)) = (z, q) → EBytes w z (errV q) e w' → EBytes w (readD (rs.map InoR.D) s m).1 (errV (readD (rs.map InoR.D) s m).2) e w') := fun e w' z q h hh => by
    unfold readD
    rw [hDc]
    dsimp only
    rw [h]
    exact hh
  generalize EBytes w (readD (rs.map InoR.D) s m).1 (errV (readD (rs.map InoR.D) s m).2) = P at hp ⊢
  have hm0 : ¬ (m : Int) < 0 := by omega
  rw [hDc] at hdl
  dsimp only at hdl
  go_enter Tryz.func77, Tryz.ntmps77
  go_wp2_with fail
  have hcS := statI a n cap nx rs s _ (ht.keep B0) hK hwf hwe hs
  rw [hDc] at hcS
  dsimp only at hcS
  (with_reducible refine hcS.mono ?_)
  rintro e w2 ⟨b1, d1, b2, d2, b3, d3, rfl, g2, bb2⟩
  have hb2 := B0.trans (bb2.mono B0.size)
  have hbA := hb2.alloc hb2.size (.cells #[.int .i64 D.ino, .int .i64 D.kind, .int .i64 D.links, .slice b1 D.data.length d1, .slice b2 D.ents.length d2, .slice b3 D.attrs.length d3] 68)
  have bA : Below w2.heap.size w2 (w2.alloc (.cells #[.int .i64 D.ino, .int .i64 D.kind, .int .i64 D.links, .slice b1 D.data.length d1, .slice b2 D.ents.length d2, .slice b3 D.attrs.length d3] 68)) := (Below.refl _ w2).alloc (Nat.le_refl _) _
  have zX := Blk.new w2 68 #[.int .i64 D.ino, .int .i64 D.kind, .int .i64 D.links, .slice b1 D.data.length d1, .slice b2 D.ents.length d2, .slice b3 D.attrs.length d3]
  obtain ⟨x0, x1, x2, x3, x4, x5⟩ := zX.six
  have hrD := (OwnV.rowB g2.data).form
  have hown := g2.data
  clear hcS hDc ht bb2
  by_cases hc0 : c = 0
  · subst hc0
    rw [errV_zero]
    by_cases hk : D.kind = 2
    · have HE := hp.out
      rw [if_neg (by simp), if_pos hk] at HE
      have HF : Hid _ := HE
      clear HE
      have hkb : (D.kind == 2) = true := by simp [hk]
      have HB : Hid _ := hbA
      clear hbA bA zX hk
      go_wp2
      exact HF.out _ _ [] 3 rfl ⟨none, 0, rfl, .inl rfl, HB.out⟩
    · have HE := hp.out
      rw [if_neg (by simp), if_neg hk] at HE
      have HF : Hid _ := HE
      clear HE hp
      have hkb : (D.kind == 2) = false := by simpa using hk
      obtain ⟨l, hl⟩ : ∃ l, D.data.length = l := ⟨_, rfl⟩
      obtain ⟨zs, hzs⟩ : ∃ z, D.data = z := ⟨_, rfl⟩
      rw [hl] at hown hdl x3 bA hbA ⊢
      rw [hzs] at hl hown HF
      clear hk zX hrD
      have HB : Hid _ := hbA
      have BA : Hid _ := bA
      have HL : Hid (zs.length = l) := hl
      clear hbA bA hl hzs
      rcases hown.2 with ⟨hv, hl0⟩ | ⟨g, cg, cur, hv, _, hgg, hcl, hcm, rest⟩
      · simp only [Value.slice.injEq] at hv
        obtain ⟨rfl, rfl, rfl⟩ := hv
        have hz0 : zs = [] := List.length_eq_zero_iff.1 HL.out
        subst hz0
        have hmz : (min (m : Int) 0).toNat = 0 := by omega
        go_wp2
        refine HF.out _ _ [] 0 (by simp) ⟨some ⟨w2.heap.size + 1, 0, none⟩, 0, ?_, .inl rfl, HB.out.alloc (by have := HB.out.size; exact this) _⟩
        first
          | rfl
          | (rw [hmz]; rfl)
      · simp only [Value.slice.injEq, true_and] at hv
        obtain ⟨rfl, rfl⟩ := hv
        have hO : Own w2 g l d1 zs := ⟨hown.1, .inr ⟨g, d1, cur, rfl, Nat.zero_le _, hgg, hcl, hcm, rest⟩⟩
        have hz0 : min (0 : Int) (l : Int) = 0 := by omega
        have hld : (l : Int) ≤ (d1 : Int) := by omega
        have hO2 := (hO.keep BA.out hO.lt)
        have hnews : ∀ (W : World) (k : Nat), k ≤ l → Rd W (some ⟨g, 0, none⟩) zs → ∀ j, j < k → W.cell? ((⟨g, 0, none⟩ : Addr).add j) = some (.int .u8 ((zs.take k).getD j 0)) := fun W k hk h j hj => by
          have h1 := h.news HL.out j (by omega)
          rw [h1]
          simp [List.getD_eq_getElem?_getD, hj]
        have hyl : ∀ k, k ≤ l → (zs.take k).length = k := fun k hk => by rw [List.length_take, HL.out]; omega
        have hRd : Hid (Rd (w2.alloc (.cells #[.int .i64 D.ino, .int .i64 D.kind, .int .i64 D.links, .slice (some ⟨g, 0, none⟩) l d1, .slice b2 D.ents.length d2, .slice b3 D.attrs.length d3] 68)) (some ⟨g, 0, none⟩) zs) := hO2.rd
        have HNW : Hid _ := hnews
        have HYL : Hid _ := hyl
        clear hnews hyl hO hO2 hgg rest hown hcl hcm
        by_cases hml : m ≤ l
        · have h1 : min (m : Int) (l : Int) = (m : Int) := by omega
          have h2 : (m : Int) ≤ (d1 : Int) := by omega
          have h3 : m ≤ d1 := by omega
          go_upto_region 9 with fail
          obtain ⟨W3, hW3⟩ : ∃ W, w2.alloc (.cells #[.int .i64 D.ino, .int .i64 D.kind, .int .i64 D.links, .slice (some ⟨g, 0, none⟩) l d1, .slice b2 D.ents.length d2, .slice b3 D.attrs.length d3] 68) = W := ⟨_, rfl⟩
          rw [hW3] at hRd HB ⊢
          clear hW3 BA x0 x1 x2 x3 x4 x5
          go_wp2_with (at_builtin; refine wpList_app _ rfl (.tmp 41) (.tmp 47) rfl W3.heap.size 0 0 [] rfl (own_empty W3) ⟨g, 0, none⟩ m d1 (zs.take m) rfl (HYL.out m hml) (HNW.out _ m hml (hRd.out.keep ((Below.refl _ _).alloc (Nat.le_refl _) _))) (by omega) _ rfl ?_; intro g' c' w' ho' hg' hgg')
          rw [List.nil_append] at ho'
          have BF : Below w.heap.size w w' := (HB.out.alloc HB.out.size _).grown hg' (by have := HB.out.size; simp; omega) (by intro q hq; simp at hq; have := HB.out.size; omega)
          refine HF.out _ _ (zs.take m) 0 rfl ⟨some ⟨g', 0, none⟩, c', ?_, ho'.rd, BF⟩
          rw [HYL.out m hml, errV_zero]
          simp
        · have h1 : min (m : Int) (l : Int) = (l : Int) := by omega
          have h3 : l ≤ d1 := by omega
          go_upto_region 9 with fail
          obtain ⟨W3, hW3⟩ : ∃ W, w2.alloc (.cells #[.int .i64 D.ino, .int .i64 D.kind, .int .i64 D.links, .slice (some ⟨g, 0, none⟩) l d1, .slice b2 D.ents.length d2, .slice b3 D.attrs.length d3] 68) = W := ⟨_, rfl⟩
          rw [hW3] at hRd HB ⊢
          clear hW3 BA x0 x1 x2 x3 x4 x5
          go_wp2_with (at_builtin; refine wpList_app _ rfl (.tmp 41) (.tmp 47) rfl W3.heap.size 0 0 [] rfl (own_empty W3) ⟨g, 0, none⟩ l d1 (zs.take l) rfl (HYL.out l (Nat.le_refl _)) (HNW.out _ l (Nat.le_refl _) (hRd.out.keep ((Below.refl _ _).alloc (Nat.le_refl _) _))) (by omega) _ rfl ?_; intro g' c' w' ho' hg' hgg')
          rw [List.nil_append] at ho'
          have BF : Below w.heap.size w w' := (HB.out.alloc HB.out.size _).grown hg' (by have := HB.out.size; simp; omega) (by intro q hq; simp at hq; have := HB.out.size; omega)
          refine HF.out _ _ (zs.take l) 0 (by rw [List.take_of_length_le (show zs.length ≤ l from Nat.le_of_eq HL.out), List.take_of_length_le (show zs.length ≤ m from by rw [HL.out]; omega)]) ⟨some ⟨g', 0, none⟩, c', ?_, ho'.rd, BF⟩
          rw [HYL.out l (Nat.le_refl _), errV_zero]
          simp
  · have HE := hp.out
    rw [if_pos (by simpa using hc0)] at HE
    have HF : Hid _ := fun e w' (h : EBytes w [] (errV c) e w') => HE e w' [] c rfl h
    rw [errV_some hc0] at HF ⊢
    clear HE
    have HB : Hid _ := hbA
    clear hbA bA zX hc0
    go_wp2
    exact HF.out _ _ ⟨none, 0, rfl, .inl rfl, HB.out⟩
set_option maxHeartbeats 2000000 in
theorem readI (a : Option Addr) (n cap : Nat) (nx : Int) (rs : List InoR) (s : ByteArray) (m : Nat) (w : World) (ht : TR w a n rs) (hK : ∀ r ∈ rs, r.D.kind = 1 ∨ r.D.kind = 2) (hwf : ∀ r ∈ rs, (Lit.int .i64 r.D.ino).wf = true) (hwe : ∀ r ∈ rs, ∀ e ∈ r.D.ents, (Lit.int .i64 e.2).wf = true) (het : EtCell w) (hs : s.size ≤ 4000000) (hm : m ≤ 1000000) (hdl : (statD (rs.map InoR.D) s).1.data.length ≤ 1048576) :
    Calls Tryz.prog 34 #[.agg #[.slice a n cap, .int .i64 nx], .string s, .int .i64 0, .int .i64 (m : Int)] w fun e w' => EBytes w (readD (rs.map InoR.D) s m).1 (.int .i64 (readD (rs.map InoR.D) s m).2) e w' := by
  have B0 : Below w.heap.size w (w.alloc (.cells #[.slice a n cap, .int .i64 nx] 47)) := (Below.refl _ w).alloc (Nat.le_refl _) _
  have hc := bytesI a n cap nx rs s m _ (ht.keep B0) hK hwf hwe hs hm hdl
  obtain ⟨R, hR⟩ : ∃ R, readD (rs.map InoR.D) s m = R := ⟨_, rfl⟩
  rw [hR] at hc ⊢
  obtain ⟨zs, c⟩ := R
  dsimp only at hc ⊢
  clear hR hdl
  unfold EBytes at hc ⊢
  obtain ⟨l, hl⟩ : ∃ l, zs.length = l := ⟨_, rfl⟩
  rw [hl] at hc ⊢
  obtain ⟨v, hv⟩ : ∃ v, errV c = v := ⟨_, rfl⟩
  have hcC := fun (W : World) (h : EtCell W) => codeOfI c W h
  rw [hv] at hc hcC
  clear hv hl
  go_enter Tryz.func34, Tryz.ntmps34
  go_wp2_with fail
  (with_reducible refine hc.mono ?_)
  rintro e w1 ⟨b, d, rfl, hr, b1⟩
  have B1 := B0.trans (b1.mono B0.size)
  go_wp2_with fail
  (with_reducible refine (hcC w1 (het.keep B1)).mono ?_)
  rintro e w2 ⟨rfl, b2⟩
  have HE : Hid (∃ (a : Option Addr) (c' : Nat), Ending.returned (.tuple #[.slice b l d, .int .i64 c]) = .returned (.tuple #[.slice a l c', .int .i64 c]) ∧ Rd w2 a zs ∧ Below w.heap.size w w2) := ⟨b, d, rfl, hr.keep b2, B1.trans (b2.mono B1.size)⟩
  clear hc hcC hr b1 b2 B1 B0
  go_wp2
  refine bodyPost_ret (v := .tuple #[.slice b l d, .int .i64 c]) (by simp [results, Tryz.f34, go_sem]) rfl ?_
  exact HE.out
set_option maxHeartbeats 2000000 in
theorem walkCI (a : Option Addr) (n cap : Nat) (nx : Int) (rs : List InoR) (s : ByteArray) (w : World) (ht : TR w a n rs) (hK : ∀ r ∈ rs, r.D.kind = 1 ∨ r.D.kind = 2) (hwf : ∀ r ∈ rs, (Lit.int .i64 r.D.ino).wf = true) (hwe : ∀ r ∈ rs, ∀ e ∈ r.D.ents, (Lit.int .i64 e.2).wf = true) (het : EtCell w) (hs : s.size ≤ 4000000) :
    Calls Tryz.prog 41 #[.agg #[.slice a n cap, .int .i64 nx], .string s] w fun e w' => e = .returned (.tuple #[.int .i64 (walkP (rs.map InoR.D) s).1, .int .i64 (walkP (rs.map InoR.D) s).2]) ∧ Below w.heap.size w w' := by
  have B0 : Below w.heap.size w (w.alloc (.cells #[.slice a n cap, .int .i64 nx] 47)) := (Below.refl _ w).alloc (Nat.le_refl _) _
  have hc := walkI a n cap nx rs s _ (ht.keep B0) hK hwf hwe hs
  obtain ⟨R, hR⟩ : ∃ R, walkP (rs.map InoR.D) s = R := ⟨_, rfl⟩
  rw [hR] at hc ⊢
  obtain ⟨x, c⟩ := R
  dsimp only at hc ⊢
  obtain ⟨v, hv⟩ : ∃ v, errV c = v := ⟨_, rfl⟩
  have hcC := fun (W : World) (h : EtCell W) => codeOfI c W h
  rw [hv] at hc hcC
  clear hv hR
  go_enter Tryz.func41, Tryz.ntmps41
  go_wp2_with fail
  (with_reducible refine hc.mono ?_)
  rintro e w1 ⟨rfl, b1⟩
  have B1 := B0.trans (b1.mono B0.size)
  go_wp2_with fail
  (with_reducible refine (hcC w1 (het.keep B1)).mono ?_)
  rintro e w2 ⟨rfl, b2⟩
  have HE : Hid (Below w.heap.size w w2) := B1.trans (b2.mono B1.size)
  clear hc hcC b1 b2 B1 B0
  go_wp2
  refine bodyPost_ret (v := .tuple #[.int .i64 x, .int .i64 c]) (by simp [results, Tryz.f41, go_sem]) rfl ?_
  exact ⟨rfl, HE.out⟩
set_option maxRecDepth 100000 in
set_option maxHeartbeats 4000000 in
/-- List of what is a file. -/
theorem listFI (a : Option Addr) (n cap : Nat) (nx : Int) (rs : List InoR) (s : ByteArray) (D : InoD) (w : World) (ht : TR w a n rs) (hK : ∀ r ∈ rs, r.D.kind = 1 ∨ r.D.kind = 2) (hwf : ∀ r ∈ rs, (Lit.int .i64 r.D.ino).wf = true) (hwe : ∀ r ∈ rs, ∀ e ∈ r.D.ents, (Lit.int .i64 e.2).wf = true) (het : EtCell w) (hs : s.size ≤ 4000000) (hD : statD (rs.map InoR.D) s = (D, 0)) (hk : D.kind = 1) :
    Calls Tryz.prog 35 #[.agg #[.slice a n cap, .int .i64 nx], .string s] w fun e w' => e = .returned (.tuple #[.slice none 0 0, .int .i64 3]) ∧ Below w.heap.size w w' := by
  have hN : ∀ W : World, Below w.heap.size w W → Calls Tryz.prog 78 #[.agg #[.slice a n cap, .int .i64 nx], .string s] W fun e w' => e = .returned (.tuple #[.slice none 0 0, errV 3]) ∧ Below W.heap.size W w' := fun W hW => by
    have B0 : Below W.heap.size W (W.alloc (.cells #[.slice a n cap, .int .i64 nx] 47)) := (Below.refl _ W).alloc (Nat.le_refl _) _
    have hcS := statI a n cap nx rs s _ (ht.keep (hW.trans (B0.mono hW.size))) hK hwf hwe hs
    rw [hD] at hcS
    dsimp only at hcS
    rw [errV_some (by decide)]
    go_enter Tryz.func78, Tryz.ntmps78
    go_wp2_with fail
    (with_reducible refine hcS.mono ?_)
    rintro e w2 ⟨b1, d1, b2, d2, b3, d3, rfl, g2, bb2⟩
    rw [errV_zero]
    have hb2 := B0.trans (bb2.mono B0.size)
    have hbA : Hid _ := hb2.alloc hb2.size (.cells #[.int .i64 D.ino, .int .i64 D.kind, .int .i64 D.links, .slice b1 D.data.length d1, .slice b2 D.ents.length d2, .slice b3 D.attrs.length d3] 68)
    have zX := Blk.new w2 68 #[.int .i64 D.ino, .int .i64 D.kind, .int .i64 D.links, .slice b1 D.data.length d1, .slice b2 D.ents.length d2, .slice b3 D.attrs.length d3]
    obtain ⟨x0, x1, x2, x3, x4, x5⟩ := zX.six
    have hkb : (D.kind == 1) = true := by simp [hk]
    clear hcS zX hb2 bb2 g2 B0
    clear hk
    go_wp2
    refine bodyPost_ret (v := .tuple #[.slice none 0 0, .iface 139 (.int .i64 3)]) (by simp [results, Tryz.f78, go_sem]) rfl ?_
    exact ⟨rfl, hbA.out⟩
  have B0 : Below w.heap.size w (w.alloc (.cells #[.slice a n cap, .int .i64 nx] 47)) := (Below.refl _ w).alloc (Nat.le_refl _) _
  go_enter Tryz.func35, Tryz.ntmps35
  go_wp2_with fail
  (with_reducible refine (hN _ B0).mono ?_)
  rintro e w1 ⟨rfl, b1⟩
  have B1 := B0.trans (b1.mono B0.size)
  go_wp2_with fail
  (with_reducible refine (codeOfI 3 w1 (het.keep B1)).mono ?_)
  rintro e w2 ⟨rfl, b2⟩
  have HE : Hid (Below w.heap.size w w2) := B1.trans (b2.mono B1.size)
  clear b1 b2 B1 B0 hN
  go_wp2
  refine bodyPost_ret (v := .tuple #[.slice none 0 0, .int .i64 3]) (by simp [results, Tryz.f35, go_sem]) rfl ?_
  exact ⟨rfl, HE.out⟩
end
end Go.Proofs.YtbjfihabkpianaaGreatDoor
