/-
  Joined: Walk5, Stat5.
-/
import Derived.Test.YtmfimoccemgoiaaGreatDoorJ16B
namespace Go.Proofs.YtmfimoccemgoiaaGreatDoor
section
open Go.RowKit
theorem ret_two {a b c d : Int} (h : (a, b) = (c, d)) : Ending.returned (.tuple #[.int .i64 a, .int .i64 b]) = .returned (.tuple #[.int .i64 c, .int .i64 d]) := by
  simp only [Prod.mk.injEq] at h
  rw [h.1, h.2]
theorem walkD_drop {zs : List ByteArray} {k : Nat} (hk : k < zs.length) (ds : List InoD) (x : Int) : walkD ds x (zs.drop k) = walkD ds x (zs.getD k ⟨#[]⟩ :: zs.drop (k + 1)) := by
  rw [List.drop_eq_getElem_cons hk]
  simp [List.getD_eq_getElem?_getD, List.getElem?_eq_getElem hk]
set_option maxRecDepth 100000 in
set_option maxHeartbeats 4000000 in
theorem l5WalkS (a : Option Addr) (n cap : Nat) (nx : Int) (rs : List InoR) (la : Option Addr) (m lc : Nat) (zs : List ByteArray) (w : World) (ht : TR w a n rs) (hm : zs.length = m) (hm2 : m ≤ 1000000) (hl : RdS w la zs) :
    Calls Tryz.prog 123 #[.agg #[.slice a n cap, .int .i64 nx], .slice la m lc] w fun e w' => e = .returned (.tuple #[.int .i64 (walkD (rs.map InoR.D) 1 zs).1, .int .i64 (walkD (rs.map InoR.D) 1 zs).2]) ∧ Below w.heap.size w w' := by
  have B0 : Below w.heap.size w (w.alloc (.cells #[.slice a n cap, .int .i64 nx] 28)) := (Below.refl _ w).alloc (Nat.le_refl _) _
  have z0 := Blk.new w 28 #[.slice a n cap, .int .i64 nx]
  have hm' : Hid (zs.length = m) := hm
  obtain ⟨ds, hds⟩ : ∃ ds, rs.map InoR.D = ds := ⟨_, rfl⟩
  rw [hds]
  have HDS : Hid _ := hds
  obtain ⟨R1, R2, hR⟩ : ∃ R1 R2, walkD ds 1 zs = (R1, R2) := ⟨_, _, rfl⟩
  rw [hR]
  dsimp only
  have HT0 := ht.keep B0
  have HL0 := hl.keep B0
  have hs0 : (w.alloc (.cells #[.slice a n cap, .int .i64 nx] 28)).heap.size = w.heap.size + 1 := by simp
  clear ht hl hds hm
  go_enter Tryz.func123, Tryz.ntmps123
  go_wp2
  obtain ⟨W0, hW0⟩ : ∃ W, w.alloc (.cells #[.slice a n cap, .int .i64 nx] 28) = W := ⟨_, rfl⟩
  rw [hW0] at B0 z0 HT0 HL0 hs0 ⊢
  clear hW0
  have HT : Hid _ := HT0
  have HL : Hid _ := HL0
  have HZ : Hid _ := z0
  have HB0 : Hid _ := B0
  clear HT0 HL0 z0 B0
  have hws : w.heap.size ≤ W0.heap.size := by omega
  have HR : Hid (walkD ds 1 zs = (R1, R2)) := hR
  clear hR
  go_loopw [6, 7] (fun x i wr => ∃ (k : Nat) (y : Int), k ≤ m ∧ i = .int .i64 k ∧ x = .int .i64 y ∧ Hid (walkD ds y (zs.drop k) = (R1, R2)) ∧ Below W0.heap.size W0 wr) (fun _ i _ => m - (intOf i).toNat)
  case atStart => exact ⟨0, 1, Nat.zero_le _, rfl, rfl, HR, Below.refl _ _⟩
  case round =>
    obtain ⟨k, y, hk, rfl, rfl, hw, hB⟩ := hrel
    clear HR
    by_cases hkm : k < m
    · have hki : (k : Int) < (m : Int) := by omega
      have hkl : k < zs.length := by rw [hm'.out]; exact hkm
      have hw' := hw.out
      rw [walkD_drop hkl] at hw'
      obtain ⟨nm, hnm⟩ : ∃ z, zs.getD k ⟨#[]⟩ = z := ⟨_, rfl⟩
      rw [hnm, walkD] at hw'
      obtain ⟨lb, loff, rfl, hllt, hlc⟩ := RdS.lt HL.out (by intro h; rw [h] at hkl; simp at hkl)
      have hln := hlc k hkl
      rw [hnm] at hln
      have zb := Blk.keep HZ.out hB
      have zt0 := zb.cell 0
      have zt1 := zb.cell 1
      simp at zt0 zt1
      have hTr := HT.out.keep hB
      have hcA := l4At_any a n cap nx y rs wr hTr.len (by have := hTr.n; omega) hTr.rd
      clear hw hlc
      cases hlo : look ds y with
      | none =>
        rw [hlo] at hw'
        have hend : Hid ((0, 2) = (R1, R2)) := hw'
        rw [atN_none (by rw [HDS.out]; exact hlo)] at hcA
        clear hTr hw' hlo hln hnm
        go_wp2_with fail
        (with_reducible refine hcA.mono ?_)
        rintro e w1 ⟨rfl, b1⟩
        clear zt0 zt1 hcA zb
        go_wp2
        go_ret2
        exact ⟨ret_two hend.out, HB0.out.trans ((hB.trans (b1.mono hB.size)).mono hws)⟩
      | some D =>
        rw [hlo] at hw'
        dsimp only at hw'
        obtain ⟨p, r, hf, hrp, rfl, hpl⟩ := lookD_some (by rw [HDS.out]; exact hlo)
        have hN : atN rs y = (p : Int) := by unfold atN; rw [hf]
        rw [hN] at hcA
        have hpn : p < n := by have := hTr.len; omega
        have hpi : (p : Int) < (n : Int) := by omega
        have hp0 : (0 : Int) ≤ (p : Int) := by omega
        have hpq : ¬ (p : Int) < 0 := by omega
        obtain ⟨b, off, rfl, hlt, hc⟩ := RdI.lt HT.out.rd (by intro h; rw [h] at hrp; simp at hrp)
        obtain ⟨x6, xr⟩ := hc p r hrp
        have hsr := hTr.small r (List.mem_of_getElem? hrp)
        have HX : Hid (∀ W : World, Below W0.heap.size W0 W → W.cell? ⟨w.heap.size, 0, none⟩ = some (.slice (some ⟨b, off, none⟩) n cap) ∧ W.cell? ⟨b, off + p * 6, none⟩ = some (.int .i64 r.D.ino) ∧ W.cell? ⟨b, off + p * 6 + 1, none⟩ = some (.int .i64 r.D.kind) ∧ W.cell? ⟨b, off + p * 6 + 2, none⟩ = some (.int .i64 r.D.links) ∧ W.cell? ⟨b, off + p * 6 + 3, none⟩ = some (.slice r.a1 r.D.data.length r.c1) ∧ W.cell? ⟨b, off + p * 6 + 4, none⟩ = some (.slice r.a2 r.D.ents.length r.c2) ∧ W.cell? ⟨b, off + p * 6 + 5, none⟩ = some (.slice r.a3 r.D.attrs.length r.c3) ∧ W.cell? ⟨lb, loff + k, none⟩ = some (.string nm)) := fun W hW => by
          have q := x6.keep hW hlt
          exact ⟨(Blk.keep HZ.out hW).cell 0, q.c0, q.c1, q.c2, q.c3, q.c4, q.c5, (hW.cell (p := ⟨lb, loff + k, none⟩) hllt).trans hln⟩
        have hcE := fun (W : World) (hW : Below W0.heap.size W0 W) => entOfS r.D r.a1 r.a2 r.a3 r.c1 r.c2 r.c3 nm W hsr.ents (xr.keep hW)
        unfold inoV at hcE
        generalize entOf nm r.D.ents = ev at hcE hw'
        generalize r.D.data.length = n1 at hcE HX
        generalize r.D.ents.length = n2 at hcE HX
        generalize r.D.attrs.length = n3 at hcE HX
        generalize r.D.ino = i1 at hcE HX
        generalize r.D.kind = i2 at hcE HX hw'
        generalize r.D.links = i3 at hcE HX
        have HE : Hid _ := hcE
        clear hTr hlo hln hnm hN hf hrp hc x6 xr hsr hcE hpl
        go_wp2_with fail
        (with_reducible refine hcA.mono ?_)
        rintro e w1 ⟨rfl, b1⟩
        have hB1 : Below W0.heap.size W0 w1 := hB.trans (b1.mono hB.size)
        clear zt0 zt1 hcA zb b1 hB
        obtain ⟨x0, x1, x2, x3, x4, x5, x6, x7⟩ := HX.out w1 hB1
        by_cases hk2 : i2 = 2
        · subst hk2
          rw [if_pos rfl] at hw'
          have hcE := HE.out w1.drew hB1.drew
          by_cases he0 : ev = 0
          · have hend : Hid ((0, 2) = (R1, R2)) := by show _ = _; rw [← hw', if_pos he0]
            subst he0
            clear hw'
            go_wp2
            go_region_held3 (fun W : World => W.cell? ⟨w.heap.size, 0, none⟩ = some (.slice (some ⟨b, off, none⟩) n cap) ∧ W.cell? ⟨b, off + p * 6, none⟩ = some (.int .i64 i1) ∧ W.cell? ⟨b, off + p * 6 + 1, none⟩ = some (.int .i64 2) ∧ W.cell? ⟨b, off + p * 6 + 2, none⟩ = some (.int .i64 i3) ∧ W.cell? ⟨b, off + p * 6 + 3, none⟩ = some (.slice r.a1 n1 r.c1) ∧ W.cell? ⟨b, off + p * 6 + 4, none⟩ = some (.slice r.a2 n2 r.c2) ∧ W.cell? ⟨b, off + p * 6 + 5, none⟩ = some (.slice r.a3 n3 r.c3) ∧ W.cell? ⟨lb, loff + k, none⟩ = some (.string nm)) (go_keep) ((go_at_call 122; (with_reducible refine hcE.mono ?_); rintro e w2 ⟨rfl, hb2⟩; obtain ⟨p0, p1, p2, p3, p4, p5, p6, p7⟩ := HX.out w2 (hB1.drew.trans (hb2.mono hB1.size))))
            all_goals (have hB2 : Below W0.heap.size W0 w2 := hB1.drew.trans (hb2.mono hB1.size); clear x0 x1 x2 x3 x4 x5 x6 x7 hcE)
            all_goals go_wp2
            all_goals go_ret2
            all_goals exact ⟨ret_two hend.out, HB0.out.trans (hB2.mono hws)⟩
          · have hnx : Hid (walkD ds ev (zs.drop (k + 1)) = (R1, R2)) := by show _ = _; rw [← hw', if_neg he0]
            have heb : (ev == 0) = false := by simpa using he0
            clear hw'
            go_wp2
            go_region_held3 (fun W : World => W.cell? ⟨w.heap.size, 0, none⟩ = some (.slice (some ⟨b, off, none⟩) n cap) ∧ W.cell? ⟨b, off + p * 6, none⟩ = some (.int .i64 i1) ∧ W.cell? ⟨b, off + p * 6 + 1, none⟩ = some (.int .i64 2) ∧ W.cell? ⟨b, off + p * 6 + 2, none⟩ = some (.int .i64 i3) ∧ W.cell? ⟨b, off + p * 6 + 3, none⟩ = some (.slice r.a1 n1 r.c1) ∧ W.cell? ⟨b, off + p * 6 + 4, none⟩ = some (.slice r.a2 n2 r.c2) ∧ W.cell? ⟨b, off + p * 6 + 5, none⟩ = some (.slice r.a3 n3 r.c3) ∧ W.cell? ⟨lb, loff + k, none⟩ = some (.string nm)) (go_keep) ((go_at_call 122; (with_reducible refine hcE.mono ?_); rintro e w2 ⟨rfl, hb2⟩; obtain ⟨p0, p1, p2, p3, p4, p5, p6, p7⟩ := HX.out w2 (hB1.drew.trans (hb2.mono hB1.size))))
            all_goals (have hB2 : Below W0.heap.size W0 w2 := hB1.drew.trans (hb2.mono hB1.size); clear x0 x1 x2 x3 x4 x5 x6 x7 hcE)
            all_goals go_wp2
            all_goals go_roundw
            all_goals first
              | (case rel => exact ⟨k + 1, ev, by omega, by go_num, rfl, hnx, hB2⟩)
              | (case measure => simp [intOf]; omega)
        · rw [if_neg hk2] at hw'
          have hend : Hid ((0, 3) = (R1, R2)) := hw'
          have hkb : (i2 != 2) = true := by simpa using hk2
          have hkb' : (i2 == 2) = false := by simpa using hk2
          clear hw'
          go_wp2
          go_ret2
          exact ⟨ret_two hend.out, HB0.out.trans (hB1.mono hws)⟩
    · have hki : ¬ (k : Int) < (m : Int) := by omega
      have hend : Hid ((y, 0) = (R1, R2)) := by
        have := hw.out
        rw [List.drop_of_length_le (by rw [hm'.out]; omega), walkD] at this
        exact this
      go_wp2
      go_ret2
      exact ⟨ret_two hend.out, HB0.out.trans (hB.mono hws)⟩
set_option maxRecDepth 100000 in
set_option maxHeartbeats 2000000 in
theorem walkS (a : Option Addr) (n cap : Nat) (nx : Int) (rs : List InoR) (s : ByteArray) (w : World) (ht : TR w a n rs) (hs : s.size ≤ 4000000) :
    Calls Tryz.prog 72 #[.agg #[.slice a n cap, .int .i64 nx], .string s] w fun e w' => e = .returned (.tuple #[.int .i64 (walkP (rs.map InoR.D) s).1, .int .i64 (walkP (rs.map InoR.D) s).2]) ∧ Below w.heap.size w w' := by
  have B0 : Below w.heap.size w (w.alloc (.cells #[.slice a n cap, .int .i64 nx] 28)) := (Below.refl _ w).alloc (Nat.le_refl _) _
  have z0 := Blk.new w 28 #[.slice a n cap, .int .i64 nx]
  have ht0 := ht.keep B0
  obtain ⟨R1, R2, hR⟩ : ∃ R1 R2, walkP (rs.map InoR.D) s = (R1, R2) := ⟨_, _, rfl⟩
  have HR : Hid _ := hR
  rw [hR]
  dsimp only
  go_enter Tryz.func72, Tryz.ntmps72
  go_wp2_with fail
  obtain ⟨W0, hW0⟩ : ∃ W, w.alloc (.cells #[.slice a n cap, .int .i64 nx] 28) = W := ⟨_, rfl⟩
  rw [hW0] at B0 z0 ht0 ⊢
  clear hW0 ht hR
  refine (splitS s W0 hs).mono ?_
  rintro e w1 ⟨b1, hcase⟩
  rcases hcase with ⟨hn, aa, cc, rfl⟩ | ⟨zs, g, c, hz, rfl, hg, ho⟩
  · have hend : Hid ((0, 1) = (R1, R2)) := by show _ = _; rw [← HR.out, walkP_none hn]
    have HB : Hid _ := B0.trans (b1.mono B0.size)
    clear b1 hn ht0 z0
    go_wp2
    go_ret2
    exact ⟨ret_two hend.out, HB.out⟩
  · have hw1 : walkD (rs.map InoR.D) 1 zs = (R1, R2) := by rw [← HR.out, walkP_some hz]
    have zb := z0.keep b1
    have zt0 := zb.cell 0
    have zt1 := zb.cell 1
    simp at zt0 zt1
    have hzl : zs.length ≤ 30 := by
      have := good_len (split_good hz)
      simpa [strs_length] using this
    have hc := l5WalkS a n cap nx rs (some ⟨g, 0, none⟩) zs.length c zs w1 (ht0.keep b1) rfl (by omega) ho.rd
    rw [hw1] at hc
    dsimp only at hc
    have HB : Hid _ := B0.trans (b1.mono B0.size)
    clear b1 hz ht0 z0 zb ho hw1 B0
    go_wp2_with fail
    (with_reducible refine hc.mono ?_)
    rintro e w2 ⟨rfl, b2⟩
    clear hc zt0 zt1
    go_wp2
    go_ret2
    exact ⟨rfl, HB.out.trans (b2.mono HB.out.size)⟩
end

section
open Go.RowKit
/-- An inode is answered, its lists in memory of its own, and a code. -/
def StatPost (w : World) (D : InoD) (c : Int) (e : Ending) (w' : World) : Prop :=
  ∃ (b1 : Option Addr) (d1 : Nat) (b2 : Option Addr) (d2 : Nat) (b3 : Option Addr) (d3 : Nat), e = .returned (.tuple #[.agg #[.int .i64 D.ino, .int .i64 D.kind, .int .i64 D.links, .slice b1 D.data.length d1, .slice b2 D.ents.length d2, .slice b3 D.attrs.length d3], .int .i64 c]) ∧
    InoG w' w.heap.size w'.heap.size D (.slice b1 D.data.length d1) (.slice b2 D.ents.length d2) (.slice b3 D.attrs.length d3) ∧ Below w.heap.size w w'
theorem statPost_zero {w w' : World} {c : Int} {e : Ending} (he : e = .returned (.tuple #[.agg #[.int .i64 0, .int .i64 0, .int .i64 0, .slice none 0 0, .slice none 0 0, .slice none 0 0], .int .i64 c])) (hb : Below w.heap.size w w') : StatPost w inoZ.D c e w' :=
  ⟨none, 0, none, 0, none, 0, he, inoG_zero _ _ _, hb⟩
theorem statD_bad {ds : List InoD} {s : ByteArray} {i c : Int} (h : walkP ds s = (i, c)) (hc : c ≠ 0) : statD ds s = (inoZ.D, c) := by unfold statD; rw [h]; exact if_neg hc
theorem statD_none {ds : List InoD} {s : ByteArray} {i : Int} (h : walkP ds s = (i, 0)) (hl : look ds i = none) : statD ds s = (inoZ.D, 2) := by
  unfold statD
  rw [h]
  dsimp only
  rw [if_pos rfl, hl]
theorem statD_some {ds : List InoD} {s : ByteArray} {i : Int} {D : InoD} (h : walkP ds s = (i, 0)) (hl : look ds i = some D) : statD ds s = (D, 0) := by
  unfold statD
  rw [h]
  dsimp only
  rw [if_pos rfl, hl]
set_option maxRecDepth 100000 in
set_option maxHeartbeats 4000000 in
theorem statS (a : Option Addr) (n cap : Nat) (nx : Int) (rs : List InoR) (s : ByteArray) (w : World) (ht : TR w a n rs) (hs : s.size ≤ 4000000) :
    Calls Tryz.prog 75 #[.agg #[.slice a n cap, .int .i64 nx], .string s] w fun e w' => StatPost w (statD (rs.map InoR.D) s).1 (statD (rs.map InoR.D) s).2 e w' := by
  have B0 : Below w.heap.size w ((w.alloc (.cells #[.slice a n cap, .int .i64 nx] 28)).alloc (.cells #[.int .i64 0, .int .i64 0, .int .i64 0, .slice none 0 0, .slice none 0 0, .slice none 0 0] 68)) := ((Below.refl _ w).alloc (Nat.le_refl _) _).alloc (by simp) _
  have zT : Blk ((w.alloc (.cells #[.slice a n cap, .int .i64 nx] 28)).alloc (.cells #[.int .i64 0, .int .i64 0, .int .i64 0, .slice none 0 0, .slice none 0 0, .slice none 0 0] 68)) w.heap.size 28 #[.slice a n cap, .int .i64 nx] := (Blk.new w _ _).alloc _
  have zR := Blk.new (w.alloc (.cells #[.slice a n cap, .int .i64 nx] 28)) 68 #[.int .i64 0, .int .i64 0, .int .i64 0, .slice none 0 0, .slice none 0 0, .slice none 0 0]
  simp only [World.size_alloc] at zR
  have hsz : ((w.alloc (.cells #[.slice a n cap, .int .i64 nx] 28)).alloc (.cells #[.int .i64 0, .int .i64 0, .int .i64 0, .slice none 0 0, .slice none 0 0, .slice none 0 0] 68)).heap.size = w.heap.size + 1 + 1 := by simp
  obtain ⟨i, c, hW⟩ : ∃ i c, walkP (rs.map InoR.D) s = (i, c) := ⟨_, _, rfl⟩
  have hp : Hid (∀ (e : Ending) (w' : World) (D : InoD) (q : Int), statD (rs.map InoR.D) s = (D, q) → StatPost w D q e w' → StatPost w (statD (rs.map InoR.D) s).1 (statD (rs.map InoR.D) s).2 e w') := fun e w' D q h hh => by rw [h]; exact hh
  generalize StatPost w (statD (rs.map InoR.D) s).1 (statD (rs.map InoR.D) s).2 = P at hp ⊢
  go_enter Tryz.func75, Tryz.ntmps75
  go_wp2_with fail
  obtain ⟨W0, hW0⟩ : ∃ W, ((w.alloc (.cells #[.slice a n cap, .int .i64 nx] 28)).alloc (.cells #[.int .i64 0, .int .i64 0, .int .i64 0, .slice none 0 0, .slice none 0 0, .slice none 0 0] 68)) = W := ⟨_, rfl⟩
  rw [hW0] at B0 zT zR hsz ⊢
  clear hW0
  have ht0 := ht.keep B0
  have hcW := walkS a n cap nx rs s W0 ht0 hs
  rw [hW] at hcW
  dsimp only at hcW
  have HW : Hid _ := hW
  clear hW ht
  (with_reducible refine hcW.mono ?_)
  rintro e w1 ⟨rfl, b1⟩
  clear hcW
  by_cases hc0 : c = 0
  · subst hc0
    have zt := zT.keep b1
    have zt0 := zt.cell 0
    have zt1 := zt.cell 1
    simp at zt0 zt1
    have ht1 := ht0.keep b1
    have hcA := inodeAtS a n cap nx i rs w1 ht1.len (by have := ht1.n; omega) ht1.small ht1.rd
    have HG1 : Hid _ := And.intro (zR.keep b1) (And.intro (B0.trans (b1.mono B0.size)) b1.size)
    have HSZ : Hid _ := hsz
    clear zT zR B0 b1 zt ht0 ht1 hsz
    go_wp2_with fail
    (with_reducible refine hcA.mono ?_)
    rintro e w2 ⟨b1, d1, b2, d2, b3, d3, rfl, g2, bb2⟩
    have zr := Blk.keep HG1.out.1 bb2
    have hb2 := HG1.out.2.1.trans (bb2.mono HG1.out.2.1.size)
    have hs12 := bb2.size
    have hD := atD_look rs i
    have hB := atB_look rs i
    have hrl : w.heap.size + 1 < w1.heap.size := by have := HG1.out.2.2; have := HSZ.out; omega
    cases hl : look (rs.map InoR.D) i with
    | none =>
      rw [hl] at hD hB
      have e1 : atD rs i = inoZ.D := hD
      have e2 : atB rs i = false := hB
      rw [e1] at g2
      rw [e1, e2]
      have hst := statD_none HW.out hl
      dsimp only [inoZ, List.length_nil] at g2 ⊢
      have z3 := zr.alloc (.cells #[.int .i64 0, .int .i64 0, .int .i64 0, .slice b1 0 d1, .slice b2 0 d2, .slice b3 0 d3] 68)
      have hb3 := hb2.alloc hb2.size (.cells #[.int .i64 0, .int .i64 0, .int .i64 0, .slice b1 0 d1, .slice b2 0 d2, .slice b3 0 d3] 68)
      obtain ⟨t0, t1, t2, t3, t4, t5⟩ := z3.six
      have fz0 := z3.frozen 0
      have fz1 := z3.frozen 1
      have fz2 := z3.frozen 2
      have fz3 := z3.frozen 3
      have fz4 := z3.frozen 4
      have fz5 := z3.frozen 5
      have HS : Hid _ := hst
      have HG : Hid _ := And.intro z3 hb3
      clear hD hB e1 e2 hl hcA zt0 zt1 g2 hb2 zr bb2 z3 hb3 hst
      go_wp2
      have zf := ((((((show Blk (w2.alloc (.cells #[.int .i64 0, .int .i64 0, .int .i64 0, .slice b1 0 d1, .slice b2 0 d2, .slice b3 0 d3] 68)) (w.heap.size + 1) 68 _ from HG.out.1).set 0 (.int .i64 0)).set 1 (.int .i64 0)).set 2 (.int .i64 0)).set 3 (.slice none 0 0)).set 4 (.slice none 0 0)).set 5 (.slice none 0 0)
      have dd0 := zf.cell 0
      have dd1 := zf.cell 1
      have dd2 := zf.cell 2
      have dd3 := zf.cell 3
      have dd4 := zf.cell 4
      have dd5 := zf.cell 5
      simp at dd0 dd1 dd2 dd3 dd4 dd5
      refine bodyPost_ret (v := .tuple #[.agg #[.int .i64 0, .int .i64 0, .int .i64 0, .slice none 0 0, .slice none 0 0, .slice none 0 0], .int .i64 2]) (by simp [results, Tryz.f75, go_sem, dd0, dd1, dd2, dd3, dd4, dd5]) rfl ?_
      exact hp.out _ _ _ _ HS.out (statPost_zero rfl (at_stored HG.out.2 (inoG_zero _ (w.heap.size + 1 + 1) _) HG.out.1 (Nat.lt_succ_self _) _ _ _ _ _ _).2)
    | some D =>
      rw [hl] at hD hB
      have e1 : atD rs i = D := hD
      have e2 : atB rs i = true := hB
      rw [e1] at g2
      rw [e1, e2]
      have hst := statD_some HW.out hl
      have z3 := zr.alloc (.cells #[.int .i64 D.ino, .int .i64 D.kind, .int .i64 D.links, .slice b1 D.data.length d1, .slice b2 D.ents.length d2, .slice b3 D.attrs.length d3] 68)
      have hb3 := hb2.alloc hb2.size (.cells #[.int .i64 D.ino, .int .i64 D.kind, .int .i64 D.links, .slice b1 D.data.length d1, .slice b2 D.ents.length d2, .slice b3 D.attrs.length d3] 68)
      have g3 := (g2.keep (Nat.le_refl _) ((Below.refl _ w2).alloc (Nat.le_refl _) (.cells #[.int .i64 D.ino, .int .i64 D.kind, .int .i64 D.links, .slice b1 D.data.length d1, .slice b2 D.ents.length d2, .slice b3 D.attrs.length d3] 68))).wider (T' := (w2.alloc (.cells #[.int .i64 D.ino, .int .i64 D.kind, .int .i64 D.links, .slice b1 D.data.length d1, .slice b2 D.ents.length d2, .slice b3 D.attrs.length d3] 68)).heap.size) (Nat.le_refl _) (by simp)
      obtain ⟨t0, t1, t2, t3, t4, t5⟩ := z3.six
      have fz0 := z3.frozen 0
      have fz1 := z3.frozen 1
      have fz2 := z3.frozen 2
      have fz3 := z3.frozen 3
      have fz4 := z3.frozen 4
      have fz5 := z3.frozen 5
      have HS : Hid _ := hst
      have HG : Hid _ := And.intro z3 (And.intro hb3 g3)
      clear hD hB e1 e2 hl hcA zt0 zt1 g2 hb2 zr bb2 z3 hb3 hst g3
      go_wp2
      have zf := ((((((show Blk (w2.alloc (.cells #[.int .i64 D.ino, .int .i64 D.kind, .int .i64 D.links, .slice b1 D.data.length d1, .slice b2 D.ents.length d2, .slice b3 D.attrs.length d3] 68)) (w.heap.size + 1) 68 _ from HG.out.1).set 0 (.int .i64 D.ino)).set 1 (.int .i64 D.kind)).set 2 (.int .i64 D.links)).set 3 (.slice b1 D.data.length d1)).set 4 (.slice b2 D.ents.length d2)).set 5 (.slice b3 D.attrs.length d3)
      have dd0 := zf.cell 0
      have dd1 := zf.cell 1
      have dd2 := zf.cell 2
      have dd3 := zf.cell 3
      have dd4 := zf.cell 4
      have dd5 := zf.cell 5
      simp at dd0 dd1 dd2 dd3 dd4 dd5
      refine bodyPost_ret (v := .tuple #[.agg #[.int .i64 D.ino, .int .i64 D.kind, .int .i64 D.links, .slice b1 D.data.length d1, .slice b2 D.ents.length d2, .slice b3 D.attrs.length d3], .int .i64 0]) (by simp [results, Tryz.f75, go_sem, dd0, dd1, dd2, dd3, dd4, dd5]) rfl ?_
      have hfin := at_stored HG.out.2.1 HG.out.2.2 HG.out.1 hrl (.int .i64 D.ino) (.int .i64 D.kind) (.int .i64 D.links) (.slice b1 D.data.length d1) (.slice b2 D.ents.length d2) (.slice b3 D.attrs.length d3)
      exact hp.out _ _ _ _ HS.out ⟨b1, d1, b2, d2, b3, d3, rfl, hfin.1, hfin.2⟩
  · have hst := statD_bad HW.out hc0
    have hcb : (c != 0) = true := by simpa using hc0
    have hcb' : (c == 0) = false := by simpa using hc0
    have zr := zR.keep b1
    obtain ⟨t0, t1, t2, t3, t4, t5⟩ := zr.six
    have fz0 := zr.frozen 0
    have fz1 := zr.frozen 1
    have fz2 := zr.frozen 2
    have fz3 := zr.frozen 3
    have fz4 := zr.frozen 4
    have fz5 := zr.frozen 5
    have HS : Hid _ := hst
    have HG : Hid _ := And.intro zr (B0.trans (b1.mono B0.size))
    clear zr zR zT B0 b1 ht0 hst
    go_wp2
    have zf := ((((((show Blk w1 (w.heap.size + 1) 68 _ from HG.out.1).set 0 (.int .i64 0)).set 1 (.int .i64 0)).set 2 (.int .i64 0)).set 3 (.slice none 0 0)).set 4 (.slice none 0 0)).set 5 (.slice none 0 0)
    have dd0 := zf.cell 0
    have dd1 := zf.cell 1
    have dd2 := zf.cell 2
    have dd3 := zf.cell 3
    have dd4 := zf.cell 4
    have dd5 := zf.cell 5
    simp at dd0 dd1 dd2 dd3 dd4 dd5
    refine bodyPost_ret (v := .tuple #[.agg #[.int .i64 0, .int .i64 0, .int .i64 0, .slice none 0 0, .slice none 0 0, .slice none 0 0], .int .i64 c]) (by simp [results, Tryz.f75, go_sem, dd0, dd1, dd2, dd3, dd4, dd5]) rfl ?_
    exact hp.out _ _ _ _ HS.out (statPost_zero rfl (at_stored HG.out.2 (inoG_zero w1 (w.heap.size + 1 + 1) w1.heap.size) HG.out.1 (Nat.lt_succ_self _) _ _ _ _ _ _).2)
end
end Go.Proofs.YtmfimoccemgoiaaGreatDoor
