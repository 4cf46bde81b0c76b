/-
  What the program's UsageOf answers.
-/
import Derived.Test.YtfjlemnohjnkhaaGreatJ22F
namespace Go.Proofs.YtfjlemnohjnkhaaGreat
open Go.RowKit
set_option maxRecDepth 100000 in
set_option maxHeartbeats 4000000 in
theorem usageI (a : Option Addr) (n cap : Nat) (nx : Int) (rs : List InoR) (w : World) (ht : TR w a n rs) :
    Calls Tryz.prog 81 #[.agg #[.slice a n cap, .int .i64 nx]] w fun e w' => e = .returned (.int .i64 (usageD (rs.map InoR.D) : Nat)) ∧ Below w.heap.size w w' := by
  have B0 : Below w.heap.size w (w.alloc (.cells #[.slice a n cap, .int .i64 nx] 47)) := (Below.refl _ w).alloc (Nat.le_refl _) _
  have z0 := Blk.new w 47 #[.slice a n cap, .int .i64 nx]
  have ht0 := ht.keep B0
  have HB : Hid _ := B0
  have HT : Hid _ := ht0
  have hln : Hid (rs.length = n) := ht.len
  have hn1 := ht.n
  obtain ⟨R, hR⟩ : ∃ R, usageD (rs.map InoR.D) = R := ⟨_, rfl⟩
  rw [hR]
  have HR : Hid _ := hR
  clear ht ht0 hR B0
  go_enter Tryz.func81, Tryz.ntmps81
  have t0 := z0.cell 0
  simp at t0
  have hw32 : IntKind.i64.wrap ((n : Int) * 32) = ((n * 32 : Nat) : Int) := by
    rw [show ((n * 32 : Nat) : Int) = (n : Int) * 32 by omega]
    exact wrap_small _ (by omega) (by omega)
  go_wp2
  obtain ⟨W0, hW0⟩ : ∃ W, w.alloc (.cells #[.slice a n cap, .int .i64 nx] 47) = W := ⟨_, rfl⟩
  rw [hW0] at z0 HB HT ⊢
  clear hW0 z0 t0
  go_loopw [3, 15] (fun c i wr => ∃ k m : Nat, k ≤ n ∧ i = .int .i64 k ∧ c = .int .i64 ((n * 32 + m : Nat) : Int) ∧ m ≤ k * 2199024304160 ∧ Hid (restU ((rs.map InoR.D).take k) = m) ∧ Hid (Below W0.heap.size W0 wr)) (fun _ i _ => n - (intOf i).toNat)
  case atStart => exact ⟨0, 0, Nat.zero_le _, rfl, by go_num, Nat.zero_le _, rfl, Below.refl _ _⟩
  case round =>
    obtain ⟨k, m, hk, rfl, rfl, hm, hlk, hB⟩ := hrel
    have hm2 : m ≤ 2305844108758876160 := by
      have : k * 2199024304160 ≤ 1048576 * 2199024304160 := Nat.mul_le_mul_right _ (by omega)
      omega
    by_cases hkn : k < n
    · have hki : (k : Int) < (n : Int) := by omega
      have hk0 : (0 : Int) ≤ (k : Int) := by omega
      obtain ⟨r, hrk⟩ : ∃ r, rs[k]? = some r := ⟨_, List.getElem?_eq_getElem (by rw [hln.out]; exact hkn)⟩
      have hTr := HT.out.keep hB.out
      obtain ⟨b, off, rfl, hlt, hc⟩ := RdI.lt hTr.rd (by intro h; rw [h] at hrk; simp at hrk)
      obtain ⟨x6, xr⟩ := hc k r hrk
      have hsm := hTr.small r (List.mem_of_getElem? hrk)
      have hds := hsm.data
      have hes := hsm.attrs
      have hnx : Hid (restU ((rs.map InoR.D).take (k + 1)) = m + (r.D.data.length + attU r.D.attrs)) := by
        show _ = _
        rw [restU_snoc (D := r.D) (by simp [hrk]), hlk.out]
      obtain ⟨es, hes'⟩ : ∃ es, r.D.attrs = es := ⟨_, rfl⟩
      have hre : RdP wr r.a3 (aP es) := by rw [← hes']; exact xr.attrs
      have HSZ : Hid (∀ q ∈ es, q.1.size ≤ 1048576 ∧ q.2.size ≤ 1048576) := by rw [← hes']; exact hsm.attrsz
      obtain ⟨x0, x1, x2, x3, x4, x5⟩ := x6
      rw [hes'] at x5 hes hnx
      obtain ⟨n3, hn3⟩ : ∃ n3, es.length = n3 := ⟨_, rfl⟩
      rw [hn3] at x5 hes
      have HN : Hid _ := hn3
      generalize r.D.ino = i1 at x0
      generalize r.D.kind = i2 at x1
      generalize r.D.links = i3 at x2
      generalize r.D.data.length = n1 at x3 hds hnx
      generalize r.D.ents.length = n2 at x4
      have bx := Blk.new wr 85 #[.int .i64 i1, .int .i64 i2, .int .i64 i3, .slice r.a1 n1 r.c1, .slice r.a2 n2 r.c2, .slice r.a3 n3 r.c3]
      have hbA : Below wr.heap.size wr (wr.alloc (.cells #[.int .i64 i1, .int .i64 i2, .int .i64 i3, .slice r.a1 n1 r.c1, .slice r.a2 n2 r.c2, .slice r.a3 n3 r.c3] 85)) := (Below.refl _ wr).alloc (Nat.le_refl _) _
      have HE : Hid _ := RdP.keep hre hbA
      have HBA : Hid (Below W0.heap.size W0 (wr.alloc (.cells #[.int .i64 i1, .int .i64 i2, .int .i64 i3, .slice r.a1 n1 r.c1, .slice r.a2 n2 r.c2, .slice r.a3 n3 r.c3] 85))) := hB.out.trans (hbA.mono hB.out.size)
      have y3 := bx.cell 3
      have y5 := bx.cell 5
      simp at y3 y5
      have HBX : Hid _ := bx
      clear hc xr hsm hrk hlk hes' hn3 hre hTr bx hbA
      go_wp2
      obtain ⟨Wb, hWb⟩ : ∃ W, wr.alloc (.cells #[.int .i64 i1, .int .i64 i2, .int .i64 i3, .slice r.a1 n1 r.c1, .slice r.a2 n2 r.c2, .slice r.a3 n3 r.c3] 85) = W := ⟨_, rfl⟩
      rw [hWb] at HE HBA HBX ⊢
      clear hWb y3 y5 x0 x1 x2 x3 x4 x5
      clear HBX
      go_loopw [3, 27] (fun c j wi => ∃ p q : Nat, p ≤ n3 ∧ j = .int .i64 p ∧ c = .int .i64 ((n * 32 + (m + (n1 + q)) : Nat) : Int) ∧ q ≤ p * 2097152 ∧ Hid (attU (es.take p) = q) ∧ Hid (Below Wb.heap.size Wb wi)) (fun _ j _ => n3 - (intOf j).toNat)
      case atStart => exact ⟨0, 0, Nat.zero_le _, rfl, by go_num, Nat.zero_le _, rfl, Below.refl _ _⟩
      case round =>
        obtain ⟨p, q, hp, rfl, rfl, hq, hcq, hBi⟩ := hrel
        have hq2 : q ≤ 2199023255552 := by
          have : p * 2097152 ≤ 1048576 * 2097152 := Nat.mul_le_mul_right _ (by omega)
          omega
        by_cases hpn : p < n3
        · have hpi : (p : Int) < (n3 : Int) := by omega
          have hp0 : (0 : Int) ≤ (p : Int) := by omega
          have hpl : p < es.length := by rw [HN.out]; exact hpn
          obtain ⟨eb, eo, hea, helt, hec⟩ := RdP.lt (RdP.keep HE.out hBi.out) (by intro h; have := congrArg List.length h; rw [aP_length] at this; simp at this; rw [this] at hpl; simp at hpl)
          have hx := hec p (by rw [aP_length]; exact hpl)
          rw [aP_at es p hpl] at hx
          have hsn := attU_snoc (List.getElem?_eq_getElem hpl)
          have hss := HSZ.out es[p] (List.getElem_mem hpl)
          obtain ⟨zn, hz⟩ : ∃ z, es[p].1 = z := ⟨_, rfl⟩
          obtain ⟨u, hu⟩ : ∃ u, es[p].2 = u := ⟨_, rfl⟩
          rw [hz, hu] at hx hsn hss
          rw [hcq.out] at hsn
          obtain ⟨x1, x2⟩ := hx
          dsimp only at x1 x2
          obtain ⟨s1, s2⟩ := hss
          rw [hea]
          have bA : Below wr.heap.size wr (wr.alloc (.cells #[.string zn, .string u] 90)) := (Below.refl _ wr).alloc (Nat.le_refl _) _
          have HBI : Hid (Below Wb.heap.size Wb (wr.alloc (.cells #[.string zn, .string u] 90))) := hBi.out.trans (bA.mono hBi.out.size)
          clear bA
          have hs1 : Hid (attU (es.take (p + 1)) = q + (zn.size + u.size)) := hsn
          clear hec hz hu hcq hsn
          generalize hzn : zn.size = sn at s1 hs1
          generalize hun : u.size = su at s2 hs1
          go_wp2
          go_roundw
          case rel => exact ⟨p + 1, q + (sn + su), by omega, by go_num, by go_num, by omega, hs1, HBI⟩
          case measure => simp [intOf]; omega
        · have hpi : ¬ (p : Int) < (n3 : Int) := by omega
          have hfin : Hid (restU ((rs.map InoR.D).take (k + 1)) = m + (n1 + q)) := by
            show _ = _
            rw [hnx.out, ← hcq.out, List.take_of_length_le (by rw [HN.out]; omega)]
          have hB2 : Hid _ := HBA.out.trans (hBi.out.mono HBA.out.size)
          go_wp2
          go_roundw
          case rel => exact ⟨k + 1, m + (n1 + q), by omega, by go_num, by go_num, by omega, hfin, hB2⟩
          case measure => simp [intOf]; omega
    · have hki : ¬ (k : Int) < (n : Int) := by omega
      have hend : Hid (((n * 32 + m : Nat) : Int) = (R : Int)) := by
        have h1 := hlk.out
        rw [List.take_of_length_le (by rw [List.length_map, hln.out]; omega)] at h1
        have h2 := HR.out
        unfold usageD at h2; rw [h1, List.length_map, hln.out] at h2
        show _ = _
        rw [h2]
      have hfb : Hid _ := HB.out.trans (hB.out.mono HB.out.size)
      go_wp2
      go_ret
      exact ⟨ret_int hend.out, hfb.out⟩
end Go.Proofs.YtfjlemnohjnkhaaGreat
