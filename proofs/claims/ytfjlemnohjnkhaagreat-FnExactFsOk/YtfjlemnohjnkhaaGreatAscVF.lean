/-
  The program's ascendingBy over volumes, by their numbers.
-/
import Derived.Test.YtfjlemnohjnkhaaGreatJ12F
import Derived.Test.YtfjlemnohjnkhaaGreatAscTF
namespace Go.Proofs.YtfjlemnohjnkhaaGreat
open Go.RowKit
def idsV (rs : List VolR) : List Int := rs.map VolR.id
theorem idsV_length (rs : List VolR) : (idsV rs).length = rs.length := by simp [idsV]
theorem idsV_at {rs : List VolR} {k : Nat} {r : VolR} (h : rs[k]? = some r) : (idsV rs).getD k 0 = r.id := by simp [idsV, List.getD_eq_getElem?_getD, h]
theorem idsV_D (rs : List VolR) : (rs.map VolR.D).map VolD.id = idsV rs := by simp [idsV, VolR.D]
theorem volId_any (id : Int) (name : ByteArray) (ro : Bool) (limit : Int) (a : Option Addr) (n cap : Nat) (nx : Int) (w : World) : Calls Tryz.prog 28 #[.agg #[.int .i64 id, .string name, .bool ro, .int .i64 limit, .slice a n cap, .int .i64 nx]] w fun e w' => e = .returned (.int .i64 id) ∧ Below w.heap.size w w' := by
  go_enter Tryz.func28, Tryz.ntmps28
  go_wp2
  go_ret
  exact ⟨rfl, (Below.refl _ w).alloc (Nat.le_refl _) _⟩
set_option maxRecDepth 100000 in
set_option maxHeartbeats 4000000 in
theorem ascV_any (a : Option Addr) (n cap : Nat) (rs : List VolR) (w : World) (hn : rs.length = n) (hs : n ≤ 4000000) (hr : RdVo w a rs) :
    Calls Tryz.prog 27 #[.slice a n cap, .func (.func 28) #[] #[]] w fun e w' => e = .returned (.bool (ascN (idsV rs))) ∧ Below w.heap.size w w' := by
  have hlast : ascN (idsV rs) = (List.range n).all fun i => decide (i = 0) || decide ((idsV rs).getD (i - 1) 0 < (idsV rs).getD i 0) := by unfold ascN; rw [idsV_length, hn]
  by_cases h0 : n ≤ 1
  · have hfin : Hid (ascN (idsV rs) = true) := by
      show _ = _
      rw [hlast]
      exact all_range_true (fun k hk => by obtain rfl := (show k = 0 by omega); rfl)
    have h01 : ¬ (1 : Int) < (n : Int) := by omega
    go_enter Tryz.func27, Tryz.ntmps27
    go_wp2
    refine wp_loop_rounds 1 ?_; rw [rounds_succ]
    go_wp2
    go_ret
    exact ⟨ret_bool hfin.out.symm, Below.refl _ _⟩
  · obtain ⟨b, off, rfl, hlt, hc⟩ := hr.lt (by intro h; subst h; simp at hn; omega)
    have HC : Hid _ := hc
    have hn' : Hid (rs.length = n) := hn
    have HL : Hid _ := hlast
    clear hr hc hn hlast
    go_enter Tryz.func27, Tryz.ntmps27
    go_wp2
    go_loopw [5] (fun i wr => ∃ k : Nat, k + 1 ≤ n ∧ i = .int .i64 ((k + 1 : Nat) : Int) ∧ Below w.heap.size w wr ∧ Hid (∀ j, j < k + 1 → (decide (j = 0) || decide ((idsV rs).getD (j - 1) 0 < (idsV rs).getD j 0)) = true)) (fun i _ => n - (intOf i).toNat)
    case atStart => exact ⟨0, by omega, rfl, Below.refl _ _, fun j hj => by obtain rfl := (show j = 0 by omega); rfl⟩
    case round =>
      obtain ⟨k, hk, rfl, hB, hall⟩ := hrel
      have hbs := hB.size
      by_cases hkn : k + 1 < n
      · have hki : ((k + 1 : Nat) : Int) < (n : Int) := by omega
        have hki0 : (k : Int) < (n : Int) := by omega
        have hk0 : (0 : Int) ≤ (k : Int) := by omega
        have hki2 : (k : Int) + 1 < (n : Int) := by omega
        have hk02 : (0 : Int) ≤ (k : Int) + 1 := by omega
        have hk03 : ((k : Int) + 1).toNat = k + 1 := by omega
        have hwk : IntKind.i64.wrap (k : Int) = (k : Int) := wrap_small _ hk0 (by omega)
        obtain ⟨r, hrk⟩ : ∃ r, rs[k]? = some r := ⟨_, List.getElem?_eq_getElem (by rw [hn'.out]; omega)⟩
        obtain ⟨t, htk⟩ : ∃ r, rs[k + 1]? = some r := ⟨_, List.getElem?_eq_getElem (by rw [hn'.out]; exact hkn)⟩
        obtain ⟨x6, _⟩ := HC.out k r hrk
        obtain ⟨y6, _⟩ := HC.out (k + 1) t htk
        have hX0 := fun (W : World) (hW : Below w.heap.size w W) => x6.keep hW hlt
        have hY0 := fun (W : World) (hW : Below w.heap.size w W) => y6.keep hW hlt
        have HX : Hid (∀ W : World, Below w.heap.size w W → W.cell? ⟨b, off + k * 6, none⟩ = some (.int .i64 r.id) ∧ W.cell? ⟨b, off + k * 6 + 1, none⟩ = some (.string r.name) ∧ W.cell? ⟨b, off + k * 6 + 2, none⟩ = some (.bool r.ro) ∧ W.cell? ⟨b, off + k * 6 + 3, none⟩ = some (.int .i64 r.limit) ∧ W.cell? ⟨b, off + k * 6 + 4, none⟩ = some (.slice r.a r.rs.length r.cap) ∧ W.cell? ⟨b, off + k * 6 + 5, none⟩ = some (.int .i64 r.nx) ∧ W.cell? ⟨b, off + (k + 1) * 6, none⟩ = some (.int .i64 t.id) ∧ W.cell? ⟨b, off + (k + 1) * 6 + 1, none⟩ = some (.string t.name) ∧ W.cell? ⟨b, off + (k + 1) * 6 + 2, none⟩ = some (.bool t.ro) ∧ W.cell? ⟨b, off + (k + 1) * 6 + 3, none⟩ = some (.int .i64 t.limit) ∧ W.cell? ⟨b, off + (k + 1) * 6 + 4, none⟩ = some (.slice t.a t.rs.length t.cap) ∧ W.cell? ⟨b, off + (k + 1) * 6 + 5, none⟩ = some (.int .i64 t.nx)) := fun W hW => ⟨(hX0 W hW).c0, (hX0 W hW).c1, (hX0 W hW).c2, (hX0 W hW).c3, (hX0 W hW).c4, (hX0 W hW).c5, (hY0 W hW).c0, (hY0 W hW).c1, (hY0 W hW).c2, (hY0 W hW).c3, (hY0 W hW).c4, (hY0 W hW).c5⟩
        have HAT : Hid ((decide (k + 1 = 0) || decide ((idsV rs).getD (k + 1 - 1) 0 < (idsV rs).getD (k + 1) 0)) = decide (r.id < t.id)) := by
          show _ = _
          rw [Nat.add_sub_cancel, idsV_at hrk, idsV_at htk]
          simp
        generalize r.id = i1 at HX HAT
        generalize r.rs.length = n1 at HX
        generalize t.id = j1 at HX HAT
        generalize t.rs.length = m1 at HX
        clear hX0 hY0 x6 y6 hrk htk
        obtain ⟨p0, p1, p2, p3, p4, p5, q0, q1, q2, q3, q4, q5⟩ := HX.out wr hB
        have cI := fun (W : World) => volId_any i1 r.name r.ro r.limit r.a n1 r.cap r.nx W
        have cJ := fun (W : World) => volId_any j1 t.name t.ro t.limit t.a m1 t.cap t.nx W
        go_upto_region 4 with fail
        go_cut [25] (fun s wx => s = .bool (decide (j1 ≤ i1)) ∧ Below w.heap.size w wx)
        case first =>
          go_region_held3 (fun W : World => W.cell? ⟨b, off + k * 6, none⟩ = some (.int .i64 i1) ∧ W.cell? ⟨b, off + k * 6 + 1, none⟩ = some (.string r.name) ∧ W.cell? ⟨b, off + k * 6 + 2, none⟩ = some (.bool r.ro) ∧ W.cell? ⟨b, off + k * 6 + 3, none⟩ = some (.int .i64 r.limit) ∧ W.cell? ⟨b, off + k * 6 + 4, none⟩ = some (.slice r.a n1 r.cap) ∧ W.cell? ⟨b, off + k * 6 + 5, none⟩ = some (.int .i64 r.nx) ∧ W.cell? ⟨b, off + (k + 1) * 6, none⟩ = some (.int .i64 j1) ∧ W.cell? ⟨b, off + (k + 1) * 6 + 1, none⟩ = some (.string t.name) ∧ W.cell? ⟨b, off + (k + 1) * 6 + 2, none⟩ = some (.bool t.ro) ∧ W.cell? ⟨b, off + (k + 1) * 6 + 3, none⟩ = some (.int .i64 t.limit) ∧ W.cell? ⟨b, off + (k + 1) * 6 + 4, none⟩ = some (.slice t.a m1 t.cap) ∧ W.cell? ⟨b, off + (k + 1) * 6 + 5, none⟩ = some (.int .i64 t.nx)) (go_keep) (first
            | (go_at_call 28; (with_reducible refine (cI wr.drew).mono ?_); rintro e w1 ⟨rfl, b1⟩; have B1 := hB.drew.trans (b1.mono hbs); obtain ⟨e0, e1, e2, e3, e4, e5, f0, f1, f2, f3, f4, f5⟩ := HX.out w1 B1)
            | (go_at_call 28; (with_reducible refine (cJ w1).mono ?_); rintro e w2 ⟨rfl, b2⟩; have B2 := B1.trans (b2.mono B1.size); obtain ⟨e0, e1, e2, e3, e4, e5, f0, f1, f2, f3, f4, f5⟩ := HX.out w2 B2)
            | (go_at_call 28; (with_reducible refine (cJ wr.drew).mono ?_); rintro e w3 ⟨rfl, b1⟩; have B1 := hB.drew.trans (b1.mono hbs); obtain ⟨e0, e1, e2, e3, e4, e5, f0, f1, f2, f3, f4, f5⟩ := HX.out w3 B1)
            | (go_at_call 28; (with_reducible refine (cI w3).mono ?_); rintro e w2 ⟨rfl, b2⟩; have B2 := B1.trans (b2.mono B1.size); obtain ⟨e0, e1, e2, e3, e4, e5, f0, f1, f2, f3, f4, f5⟩ := HX.out w2 B2))
          all_goals (go_wp2_with fail; go_meet; exact ⟨rfl, B2⟩)
        case rest =>
        obtain ⟨rfl, B2⟩ := hcut
        clear p0 p1 p2 p3 p4 p5 q0 q1 q2 q3 q4 q5 cI cJ
        by_cases hless : i1 < j1
        · have hle : decide (j1 ≤ i1) = false := by simp; omega
          have hnx : Hid (∀ j, j < k + 1 + 1 → (decide (j = 0) || decide ((idsV rs).getD (j - 1) 0 < (idsV rs).getD j 0)) = true) := by
            intro j hj
            rcases (show j < k + 1 ∨ j = k + 1 by omega) with hj | rfl
            · exact hall.out j hj
            · rw [HAT.out, decide_eq_true hless]
          rw [hle]
          clear HAT hall HL hle
          go_wp2
          go_roundw
          all_goals first
            | (case rel => exact ⟨k + 1, by omega, by go_num, B2, hnx⟩)
            | (case rel => (repeat apply Exists.intro); exact ⟨⟨k + 1, by omega, by go_num, B2, hnx⟩, rfl⟩)
            | (case measure => simp [intOf]; omega)
        · have hle : decide (j1 ≤ i1) = true := by simp; omega
          have hfin : Hid (ascN (idsV rs) = false) := by show _ = _; rw [HL.out]; exact all_range_false hkn (by rw [HAT.out, decide_eq_false hless])
          rw [hle]
          clear HAT hall HL hle
          go_wp2
          go_ret
          exact ⟨ret_bool hfin.out.symm, B2⟩
      · have hki : ¬ ((k + 1 : Nat) : Int) < (n : Int) := by omega
        obtain rfl : k + 1 = n := by omega
        have hfin : Hid (ascN (idsV rs) = true) := by show _ = _; rw [HL.out]; exact all_range_true hall.out
        go_wp2
        go_ret
        exact ⟨ret_bool hfin.out.symm, hB⟩
end Go.Proofs.YtfjlemnohjnkhaaGreat
