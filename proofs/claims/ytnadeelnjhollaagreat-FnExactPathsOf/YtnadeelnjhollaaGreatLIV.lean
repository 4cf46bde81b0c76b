/-
  Joined: Links, LinksI.
-/
import Derived.Test.YtnadeelnjhollaaGreatSMV
import Derived.Test.YtnadeelnjhollaaGreatTreeV
namespace Go.Proofs.YtnadeelnjhollaaGreat
section
open Go.RowKit
theorem linksIn_le (D : InoD) (x : Int) : linksIn D x ≤ D.ents.length := by
  unfold linksIn
  split
  · exact List.length_filter_le _ _
  · omega
def cntE (es : List (ByteArray × Int)) (x : Int) : Nat := (es.filter fun e => e.2 == x).length
theorem cntE_snoc (es : List (ByteArray × Int)) (x : Int) (k : Nat) (q : ByteArray × Int) (h : es[k]? = some q) : cntE (es.take (k + 1)) x = cntE (es.take k) x + (if q.2 = x then 1 else 0) := by
  unfold cntE
  rw [List.take_add_one, h, List.filter_append, List.length_append]
  by_cases hq : q.2 = x
  · simp [hq]
  · have : (q.2 == x) = false := by simpa using hq
    simp [this, hq]
theorem linksD_snoc (ds : List InoD) (x : Int) (k : Nat) (D : InoD) (h : ds[k]? = some D) : linksD (ds.take (k + 1)) x = linksD (ds.take k) x + linksIn D x := by
  unfold linksD
  rw [List.take_add_one, h]
  simp
set_option maxRecDepth 100000 in
set_option maxHeartbeats 4000000 in
theorem linksS (a : Option Addr) (n cap : Nat) (nx x : Int) (rs : List InoR) (w : World) (ht : TR w a n rs) :
    Calls Tryz.prog 43 #[.agg #[.slice a n cap, .int .i64 nx], .int .i64 x] w fun e w' => e = .returned (.int .i64 (linksD (rs.map InoR.D) x : Nat)) ∧ Below w.heap.size w w' := by
  have B0 : Below w.heap.size w (w.alloc (.cells #[.slice a n cap, .int .i64 nx] 30)) := (Below.refl _ w).alloc (Nat.le_refl _) _
  have z0 := Blk.new w 30 #[.slice a n cap, .int .i64 nx]
  have ht0 := ht.keep B0
  have HB : Hid _ := B0
  have HT : Hid _ := ht0
  have hln : Hid (rs.length = n) := ht.len
  have hn1 := ht.n
  obtain ⟨R, hR⟩ : ∃ R, linksD (rs.map InoR.D) x = R := ⟨_, rfl⟩
  rw [hR]
  have HR : Hid _ := hR
  clear ht ht0 hR B0
  go_enter Tryz.func43, Tryz.ntmps43
  go_wp2
  obtain ⟨W0, hW0⟩ : ∃ W, w.alloc (.cells #[.slice a n cap, .int .i64 nx] 30) = W := ⟨_, rfl⟩
  rw [hW0] at z0 HB HT ⊢
  have t0 := z0.cell 0
  simp at t0
  clear hW0 z0
  go_loop [5, 6] (fun c i => ∃ k m : Nat, k ≤ n ∧ i = .int .i64 k ∧ c = .int .i64 m ∧ m ≤ k * 1048576 ∧ Hid (linksD ((rs.map InoR.D).take k) x = m)) (fun _ i => n - (intOf i).toNat)
  case atStart => exact ⟨0, 0, Nat.zero_le _, rfl, rfl, Nat.zero_le _, rfl⟩
  case round =>
    obtain ⟨k, m, hk, rfl, rfl, hm, hlk⟩ := hrel
    by_cases hkn : k < n
    · have hki : (k : Int) < (n : Int) := by omega
      have hk0 : (0 : Int) ≤ (k : Int) := by omega
      obtain ⟨r, hrk⟩ : ∃ r, rs[k]? = some r := ⟨_, List.getElem?_eq_getElem (by rw [hln.out]; exact hkn)⟩
      obtain ⟨b, off, rfl, hlt, hc⟩ := RdI.lt HT.out.rd (by intro h; rw [h] at hrk; simp at hrk)
      obtain ⟨x6, xr⟩ := hc k r hrk
      have hsm := HT.out.small r (List.mem_of_getElem? hrk)
      have hes := hsm.ents
      have hnx : Hid (∀ q : Nat, q = linksIn r.D x → linksD ((rs.map InoR.D).take (k + 1)) x = m + q) := by
        intro q hq
        rw [linksD_snoc _ _ _ r.D (by simp [hrk]), hlk.out, hq]
      have hle := linksIn_le r.D x
      obtain ⟨es, hes'⟩ : ∃ es, r.D.ents = es := ⟨_, rfl⟩
      have hre : RdP W0 r.a2 (eP es) := by rw [← hes']; exact xr.ents
      have y1 := x6.c1
      have y4 := x6.c4
      rw [hes'] at y4 hes hle
      have hli : Hid (linksIn r.D x = if r.D.kind = 2 then cntE es x else 0) := by show _ = _; unfold linksIn cntE; rw [hes']
      obtain ⟨n2, hn2⟩ : ∃ n2, es.length = n2 := ⟨_, rfl⟩
      rw [hn2] at y4 hes hle
      have HN : Hid _ := hn2
      have HE : Hid _ := hre
      generalize r.D.kind = i2 at y1 hli
      clear hc x6 xr hsm hrk hlk hes' hn2 hre
      by_cases hk2 : i2 = 2
      · subst hk2
        have hlq : Hid (linksIn r.D x = cntE es x) := by show _ = _; rw [hli.out, if_pos rfl]
        go_wp2
        go_loop [5, 7] (fun c j => ∃ p q : Nat, p ≤ n2 ∧ j = .int .i64 p ∧ c = .int .i64 ((m + q : Nat) : Int) ∧ q ≤ p ∧ Hid (cntE (es.take p) x = q)) (fun _ j => n2 - (intOf j).toNat)
        case atStart => exact ⟨0, 0, Nat.zero_le _, rfl, rfl, Nat.zero_le _, rfl⟩
        case round =>
          obtain ⟨p, q, hp, rfl, rfl, hq, hcq⟩ := hrel
          by_cases hpn : p < n2
          · have hpi : (p : Int) < (n2 : Int) := by omega
            have hp0 : (0 : Int) ≤ (p : Int) := by omega
            have hpl : p < es.length := by rw [HN.out]; exact hpn
            obtain ⟨eb, eo, hea, helt, hec⟩ := RdP.lt HE.out (by intro h; have := congrArg List.length h; rw [eP_length] at this; simp at this; rw [this] at hpl; simp at hpl)
            have hx := hec p (by rw [eP_length]; exact hpl)
            rw [eP_at es p hpl] at hx
            obtain ⟨zn, hz⟩ : ∃ z, es[p].1 = z := ⟨_, rfl⟩
            obtain ⟨u, hu⟩ : ∃ u, es[p].2 = u := ⟨_, rfl⟩
            have hsn := cntE_snoc es x p es[p] (List.getElem?_eq_getElem hpl)
            rw [hz, hu] at hx
            rw [hu, hcq.out] at hsn
            obtain ⟨x1, x2⟩ := hx
            dsimp only at x1 x2
            rw [hea] at y4
            clear hec hz hu hcq
            by_cases hux : u = x
            · have hub : (u == x) = true := by simp [hux]
              have hs1 : Hid (cntE (es.take (p + 1)) x = q + 1) := by show _ = _; rw [hsn, if_pos hux]
              subst hux
              clear hsn
              go_wp2
              go_round
              case rel => exact ⟨p + 1, q + 1, by omega, by go_num, by go_num, by omega, hs1⟩
              case measure => simp [intOf]; omega
            · have hub : (u == x) = false := by simpa using hux
              have hs1 : Hid (cntE (es.take (p + 1)) x = q) := by show _ = _; rw [hsn, if_neg hux]; rfl
              clear hsn
              go_wp2
              go_round
              case rel => exact ⟨p + 1, q, by omega, by go_num, by go_num, by omega, hs1⟩
              case measure => simp [intOf]; omega
          · have hpi : ¬ (p : Int) < (n2 : Int) := by omega
            have hfin : Hid (linksD ((rs.map InoR.D).take (k + 1)) x = m + q) := by
              refine hnx.out q ?_
              rw [hlq.out, ← hcq.out, List.take_of_length_le (by rw [HN.out]; omega)]
            go_wp2
            go_round
            case rel => exact ⟨k + 1, m + q, by omega, by go_num, by go_num, by omega, hfin⟩
            case measure => simp [intOf]; omega
      · have hkb : (i2 == 2) = false := by simpa using hk2
        have hfin : Hid (linksD ((rs.map InoR.D).take (k + 1)) x = m) := by
          have := hnx.out 0 (by rw [hli.out, if_neg hk2])
          show _ = _
          simpa using this
        go_wp2
        refine wp_loop_rounds 1 ?_; rw [rounds_succ]
        by_cases h0 : (0 : Int) < (n2 : Int)
        · go_wp2
          go_round
          case rel => exact ⟨k + 1, m, by omega, by go_num, rfl, Nat.le_trans hm (Nat.mul_le_mul_right _ (Nat.le_succ k)), hfin⟩
          case measure => simp [intOf]; omega
        · go_wp2
          go_round
          case rel => exact ⟨k + 1, m, by omega, by go_num, rfl, Nat.le_trans hm (Nat.mul_le_mul_right _ (Nat.le_succ k)), hfin⟩
          case measure => simp [intOf]; omega
    · have hki : ¬ (k : Int) < (n : Int) := by omega
      have hend : Hid ((m : Int) = (R : Int)) := by
        have h1 := hlk.out
        rw [List.take_of_length_le (by rw [List.length_map, hln.out]; omega), HR.out] at h1
        show _ = _
        rw [h1]
      go_wp2
      go_ret
      exact ⟨ret_int hend.out, HB.out⟩
end

section
open Go.RowKit
set_option maxRecDepth 100000 in
set_option maxHeartbeats 4000000 in
theorem linksI (a : Option Addr) (n cap : Nat) (nx x : Int) (rs : List InoR) (w : World) (ht : TR w a n rs) :
    Calls Tryz.prog 17 #[.agg #[.slice a n cap, .int .i64 nx], .int .i64 x] w fun e w' => e = .returned (.int .i64 (linksD (rs.map InoR.D) x : Nat)) ∧ Below w.heap.size w w' := by
  have B0 : Below w.heap.size w (w.alloc (.cells #[.slice a n cap, .int .i64 nx] 30)) := (Below.refl _ w).alloc (Nat.le_refl _) _
  have z0 := Blk.new w 30 #[.slice a n cap, .int .i64 nx]
  have ht0 := ht.keep B0
  have HB : Hid _ := B0
  have HT : Hid _ := ht0
  have hln : Hid (rs.length = n) := ht.len
  have hn1 := ht.n
  obtain ⟨R, hR⟩ : ∃ R, linksD (rs.map InoR.D) x = R := ⟨_, rfl⟩
  rw [hR]
  have HR : Hid _ := hR
  clear ht ht0 hR B0
  go_enter Tryz.func17, Tryz.ntmps17
  have t0 := z0.cell 0
  simp at t0
  go_wp2
  obtain ⟨W0, hW0⟩ : ∃ W, w.alloc (.cells #[.slice a n cap, .int .i64 nx] 30) = W := ⟨_, rfl⟩
  rw [hW0] at z0 HB HT ⊢
  clear hW0 z0 t0
  go_loopw [5, 13] (fun c i wr => ∃ k m : Nat, k ≤ n ∧ i = .int .i64 k ∧ c = .int .i64 m ∧ m ≤ k * 1048576 ∧ Hid (linksD ((rs.map InoR.D).take k) x = m) ∧ Hid (Below W0.heap.size W0 wr)) (fun _ i _ => n - (intOf i).toNat)
  case atStart => exact ⟨0, 0, Nat.zero_le _, rfl, rfl, Nat.zero_le _, rfl, Below.refl _ _⟩
  case round =>
    obtain ⟨k, m, hk, rfl, rfl, hm, hlk, hB⟩ := hrel
    by_cases hkn : k < n
    · have hki : (k : Int) < (n : Int) := by omega
      have hk0 : (0 : Int) ≤ (k : Int) := by omega
      obtain ⟨r, hrk⟩ : ∃ r, rs[k]? = some r := ⟨_, List.getElem?_eq_getElem (by rw [hln.out]; exact hkn)⟩
      have hTr := HT.out.keep hB.out
      obtain ⟨b, off, rfl, hlt, hc⟩ := RdI.lt hTr.rd (by intro h; rw [h] at hrk; simp at hrk)
      obtain ⟨x6, xr⟩ := hc k r hrk
      have hsm := hTr.small r (List.mem_of_getElem? hrk)
      have hes := hsm.ents
      have hnx : Hid (∀ q : Nat, q = linksIn r.D x → linksD ((rs.map InoR.D).take (k + 1)) x = m + q) := by
        intro q hq
        rw [linksD_snoc _ _ _ r.D (by simp [hrk]), hlk.out, hq]
      have hle := linksIn_le r.D x
      obtain ⟨es, hes'⟩ : ∃ es, r.D.ents = es := ⟨_, rfl⟩
      have hre : RdP wr r.a2 (eP es) := by rw [← hes']; exact xr.ents
      obtain ⟨x0, x1, x2, x3, x4, x5⟩ := x6
      rw [hes'] at x4 hes hle
      have hli : Hid (linksIn r.D x = if r.D.kind = 2 then cntE es x else 0) := by show _ = _; unfold linksIn cntE; rw [hes']
      obtain ⟨n2, hn2⟩ : ∃ n2, es.length = n2 := ⟨_, rfl⟩
      rw [hn2] at x4 hes hle
      have HN : Hid _ := hn2
      generalize r.D.ino = i1 at x0
      generalize r.D.kind = i2 at x1 hli
      generalize r.D.links = i3 at x2
      generalize r.D.data.length = n1 at x3
      generalize r.D.attrs.length = n3 at x5
      have bx := Blk.new wr 46 #[.int .i64 i1, .int .i64 i2, .int .i64 i3, .slice r.a1 n1 r.c1, .slice r.a2 n2 r.c2, .slice r.a3 n3 r.c3]
      have hbA : Below wr.heap.size wr (wr.alloc (.cells #[.int .i64 i1, .int .i64 i2, .int .i64 i3, .slice r.a1 n1 r.c1, .slice r.a2 n2 r.c2, .slice r.a3 n3 r.c3] 46)) := (Below.refl _ wr).alloc (Nat.le_refl _) _
      have HE : Hid _ := RdP.keep hre hbA
      have HBA : Hid (Below W0.heap.size W0 (wr.alloc (.cells #[.int .i64 i1, .int .i64 i2, .int .i64 i3, .slice r.a1 n1 r.c1, .slice r.a2 n2 r.c2, .slice r.a3 n3 r.c3] 46))) := hB.out.trans (hbA.mono hB.out.size)
      have y1 := bx.cell 1
      have y4 := bx.cell 4
      simp at y1 y4
      clear hc xr hsm hrk hlk hes' hn2 hre hTr bx hbA
      by_cases hk2 : i2 = 2
      · subst hk2
        have hlq : Hid (linksIn r.D x = cntE es x) := by show _ = _; rw [hli.out, if_pos rfl]
        go_wp2
        obtain ⟨Wb, hWb⟩ : ∃ W, wr.alloc (.cells #[.int .i64 i1, .int .i64 2, .int .i64 i3, .slice r.a1 n1 r.c1, .slice r.a2 n2 r.c2, .slice r.a3 n3 r.c3] 46) = W := ⟨_, rfl⟩
        rw [hWb] at HE HBA ⊢
        clear hWb y1 y4 x0 x1 x2 x3 x4 x5
        go_loopw [5, 23] (fun c j wi => ∃ p q : Nat, p ≤ n2 ∧ j = .int .i64 p ∧ c = .int .i64 ((m + q : Nat) : Int) ∧ q ≤ p ∧ Hid (cntE (es.take p) x = q) ∧ Hid (Below Wb.heap.size Wb wi)) (fun _ j _ => n2 - (intOf j).toNat)
        case atStart => exact ⟨0, 0, Nat.zero_le _, rfl, rfl, Nat.zero_le _, rfl, Below.refl _ _⟩
        case round =>
          obtain ⟨p, q, hp, rfl, rfl, hq, hcq, hBi⟩ := hrel
          by_cases hpn : p < n2
          · have hpi : (p : Int) < (n2 : Int) := by omega
            have hp0 : (0 : Int) ≤ (p : Int) := by omega
            have hpl : p < es.length := by rw [HN.out]; exact hpn
            obtain ⟨eb, eo, hea, helt, hec⟩ := RdP.lt (RdP.keep HE.out hBi.out) (by intro h; have := congrArg List.length h; rw [eP_length] at this; simp at this; rw [this] at hpl; simp at hpl)
            have hx := hec p (by rw [eP_length]; exact hpl)
            rw [eP_at es p hpl] at hx
            obtain ⟨zn, hz⟩ : ∃ z, es[p].1 = z := ⟨_, rfl⟩
            obtain ⟨u, hu⟩ : ∃ u, es[p].2 = u := ⟨_, rfl⟩
            have hsn := cntE_snoc es x p es[p] (List.getElem?_eq_getElem hpl)
            rw [hz, hu] at hx
            rw [hu, hcq.out] at hsn
            obtain ⟨x1, x2⟩ := hx
            dsimp only at x1 x2
            rw [hea]
            have bA : Below wr.heap.size wr (wr.alloc (.cells #[.string zn, .int .i64 u] 60)) := (Below.refl _ wr).alloc (Nat.le_refl _) _
            have HBI : Hid (Below Wb.heap.size Wb (wr.alloc (.cells #[.string zn, .int .i64 u] 60))) := hBi.out.trans (bA.mono hBi.out.size)
            clear hec hz hu hcq bA
            by_cases hux : u = x
            · have hub : (u == x) = true := by simp [hux]
              have hs1 : Hid (cntE (es.take (p + 1)) x = q + 1) := by show _ = _; rw [hsn, if_pos hux]
              subst hux
              clear hsn
              go_wp2
              go_roundw
              case rel => exact ⟨p + 1, q + 1, by omega, by go_num, by go_num, by omega, hs1, HBI⟩
              case measure => simp [intOf]; omega
            · have hub : (u == x) = false := by simpa using hux
              have hs1 : Hid (cntE (es.take (p + 1)) x = q) := by show _ = _; rw [hsn, if_neg hux]; rfl
              clear hsn
              go_wp2
              go_roundw
              case rel => exact ⟨p + 1, q, by omega, by go_num, by go_num, by omega, hs1, HBI⟩
              case measure => simp [intOf]; omega
          · have hpi : ¬ (p : Int) < (n2 : Int) := by omega
            have hfin : Hid (linksD ((rs.map InoR.D).take (k + 1)) x = m + q) := by
              refine hnx.out q ?_
              rw [hlq.out, ← hcq.out, List.take_of_length_le (by rw [HN.out]; omega)]
            have hB2 : Hid _ := HBA.out.trans (hBi.out.mono HBA.out.size)
            go_wp2
            go_roundw
            case rel => exact ⟨k + 1, m + q, by omega, by go_num, by go_num, by omega, hfin, hB2⟩
            case measure => simp [intOf]; omega
      · have hkb : (i2 == 2) = false := by simpa using hk2
        have hkc : (i2 != 2) = true := by simpa using hk2
        have hfin : Hid (linksD ((rs.map InoR.D).take (k + 1)) x = m) := by
          have := hnx.out 0 (by rw [hli.out, if_neg hk2])
          show _ = _
          simpa using this
        go_wp2
        go_roundw
        case rel => exact ⟨k + 1, m, by omega, by go_num, rfl, Nat.le_trans hm (Nat.mul_le_mul_right _ (Nat.le_succ k)), hfin, HBA⟩
        case measure => simp [intOf]; omega
    · have hki : ¬ (k : Int) < (n : Int) := by omega
      have hend : Hid ((m : Int) = (R : Int)) := by
        have h1 := hlk.out
        rw [List.take_of_length_le (by rw [List.length_map, hln.out]; omega), HR.out] at h1
        show _ = _
        rw [h1]
      have hfb : Hid _ := HB.out.trans (hB.out.mono HB.out.size)
      go_wp2
      go_ret
      exact ⟨ret_int hend.out, hfb.out⟩
end
end Go.Proofs.YtnadeelnjhollaaGreat
