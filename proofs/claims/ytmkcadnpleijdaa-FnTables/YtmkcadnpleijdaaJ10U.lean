/-
  Joined: AscT, AscW.
-/
import Derived.Test.YtmkcadnpleijdaaTbMU
import Derived.Test.YtmkcadnpleijdaaEntsOkU
import Derived.Maps.OwnSet
import Derived.Maps.OwnOps
namespace Go.Proofs.Ytmkcadnpleijdaa
section
open Go.RowKit
/-- All ascend from the second one on. -/
def ascN (xs : List Int) : Bool := (List.range xs.length).all fun i => decide (i = 0) || decide (xs.getD (i - 1) 0 < xs.getD i 0)
end

section
open Go.RowKit
def idsW (rs : List RwD) : List Int := rs.map RwD.id
theorem idsW_length (rs : List RwD) : (idsW rs).length = rs.length := by simp [idsW]
theorem idsW_at {rs : List RwD} {k : Nat} {r : RwD} (h : rs[k]? = some r) : (idsW rs).getD k 0 = r.id := by simp [idsW, List.getD_eq_getElem?_getD, h]
theorem rowId_any (x0 : Int) (x1 : ByteArray) (x2 : Bool) (x3 x4 : Int) (w : World) : Calls Try.prog 42 #[.agg #[.int .i64 x0, .string x1, .bool x2, .int .i64 x3, .int .i64 x4]] w fun e w' => e = .returned (.int .i64 x0) ∧ Below w.heap.size w w' := by
  go_enter Try.func42, Try.ntmps42
  go_wp2
  go_ret
  exact ⟨rfl, (Below.refl _ w).alloc (Nat.le_refl _) _⟩
set_option maxRecDepth 100000 in
set_option maxHeartbeats 4000000 in
theorem ascW_any (a : Option Addr) (n cap : Nat) (rs : List RwD) (w : World) (hn : rs.length = n) (hs : n ≤ 4000000) (hr : RdRw w a rs) :
    Calls Try.prog 41 #[.slice a n cap, .func (.func 42) #[] #[]] w fun e w' => e = .returned (.bool (ascN (idsW rs))) ∧ Below w.heap.size w w' := by
  have hlast : ascN (idsW rs) = (List.range n).all fun i => decide (i = 0) || decide ((idsW rs).getD (i - 1) 0 < (idsW rs).getD i 0) := by unfold ascN; rw [idsW_length, hn]
  by_cases h0 : n ≤ 1
  · have hfin : Hid (ascN (idsW rs) = true) := by
      show _ = _
      rw [hlast]
      exact all_range_true (fun k hk => by obtain rfl := (show k = 0 by omega); rfl)
    have h01 : ¬ (1 : Int) < (n : Int) := by omega
    go_enter Try.func41, Try.ntmps41
    go_wp2
    refine wp_loop_rounds 1 ?_; rw [rounds_succ]
    go_wp2
    go_ret
    exact ⟨ret_bool hfin.out.symm, Below.refl _ _⟩
  · obtain ⟨b, off, rfl, hlt, hc⟩ := hr.lt (by intro h; subst h; simp at hn; omega)
    have HC : Hid _ := hc
    have hn' : Hid (rs.length = n) := hn
    have HL : Hid _ := hlast
    clear hr hc hn hlast
    go_enter Try.func41, Try.ntmps41
    go_wp2
    go_loopw [5] (fun i wr => ∃ k : Nat, k + 1 ≤ n ∧ i = .int .i64 ((k + 1 : Nat) : Int) ∧ Below w.heap.size w wr ∧ Hid (∀ j, j < k + 1 → (decide (j = 0) || decide ((idsW rs).getD (j - 1) 0 < (idsW rs).getD j 0)) = true)) (fun i _ => n - (intOf i).toNat)
    case atStart => exact ⟨0, by omega, rfl, Below.refl _ _, fun j hj => by obtain rfl := (show j = 0 by omega); rfl⟩
    case round =>
      obtain ⟨k, hk, rfl, hB, hall⟩ := hrel
      have hbs := hB.size
      by_cases hkn : k + 1 < n
      · have hki : ((k + 1 : Nat) : Int) < (n : Int) := by omega
        have hki0 : (k : Int) < (n : Int) := by omega
        have hk0 : (0 : Int) ≤ (k : Int) := by omega
        have hki2 : (k : Int) + 1 < (n : Int) := by omega
        have hk02 : (0 : Int) ≤ (k : Int) + 1 := by omega
        have hk03 : ((k : Int) + 1).toNat = k + 1 := by omega
        have hwk : IntKind.i64.wrap (k : Int) = (k : Int) := wrap_small _ hk0 (by omega)
        obtain ⟨r, hrk⟩ : ∃ r, rs[k]? = some r := ⟨_, List.getElem?_eq_getElem (by rw [hn'.out]; omega)⟩
        obtain ⟨t, htk⟩ : ∃ r, rs[k + 1]? = some r := ⟨_, List.getElem?_eq_getElem (by rw [hn'.out]; exact hkn)⟩
        have x6 := HC.out k r hrk
        have y6 := HC.out (k + 1) t htk
        have hX0 := fun (W : World) (hW : Below w.heap.size w W) => x6.keep hW hlt
        have hY0 := fun (W : World) (hW : Below w.heap.size w W) => y6.keep hW hlt
        have HX : Hid (∀ W : World, Below w.heap.size w W → W.cell? ⟨b, off + k * 5, none⟩ = some (.int .i64 r.id) ∧ W.cell? ⟨b, off + k * 5 + 1, none⟩ = some (.string r.name) ∧ W.cell? ⟨b, off + k * 5 + 2, none⟩ = some (.bool r.ro) ∧ W.cell? ⟨b, off + k * 5 + 3, none⟩ = some (.int .i64 r.lim) ∧ W.cell? ⟨b, off + k * 5 + 4, none⟩ = some (.int .i64 r.mp) ∧ W.cell? ⟨b, off + (k + 1) * 5, none⟩ = some (.int .i64 t.id) ∧ W.cell? ⟨b, off + (k + 1) * 5 + 1, none⟩ = some (.string t.name) ∧ W.cell? ⟨b, off + (k + 1) * 5 + 2, none⟩ = some (.bool t.ro) ∧ W.cell? ⟨b, off + (k + 1) * 5 + 3, none⟩ = some (.int .i64 t.lim) ∧ W.cell? ⟨b, off + (k + 1) * 5 + 4, none⟩ = some (.int .i64 t.mp)) := fun W hW => ⟨(hX0 W hW).c0, (hX0 W hW).c1, (hX0 W hW).c2, (hX0 W hW).c3, (hX0 W hW).c4, (hY0 W hW).c0, (hY0 W hW).c1, (hY0 W hW).c2, (hY0 W hW).c3, (hY0 W hW).c4⟩
        have HAT : Hid ((decide (k + 1 = 0) || decide ((idsW rs).getD (k + 1 - 1) 0 < (idsW rs).getD (k + 1) 0)) = decide (r.id < t.id)) := by
          show _ = _
          rw [Nat.add_sub_cancel, idsW_at hrk, idsW_at htk]
          simp
        generalize r.id = i1 at HX HAT
        generalize t.id = j1 at HX HAT
        clear hX0 hY0 x6 y6 hrk htk
        obtain ⟨p0, p1, p2, p3, p4, q0, q1, q2, q3, q4⟩ := HX.out wr hB
        have cI := fun (W : World) => rowId_any i1 r.name r.ro r.lim r.mp W
        have cJ := fun (W : World) => rowId_any j1 t.name t.ro t.lim t.mp W
        go_upto_region 4 with fail
        go_cut [25] (fun s wx => s = .bool (decide (j1 ≤ i1)) ∧ Below w.heap.size w wx)
        case first =>
          go_region_held3 (fun W : World => W.cell? ⟨b, off + k * 5, none⟩ = some (.int .i64 i1) ∧ W.cell? ⟨b, off + k * 5 + 1, none⟩ = some (.string r.name) ∧ W.cell? ⟨b, off + k * 5 + 2, none⟩ = some (.bool r.ro) ∧ W.cell? ⟨b, off + k * 5 + 3, none⟩ = some (.int .i64 r.lim) ∧ W.cell? ⟨b, off + k * 5 + 4, none⟩ = some (.int .i64 r.mp) ∧ W.cell? ⟨b, off + (k + 1) * 5, none⟩ = some (.int .i64 j1) ∧ W.cell? ⟨b, off + (k + 1) * 5 + 1, none⟩ = some (.string t.name) ∧ W.cell? ⟨b, off + (k + 1) * 5 + 2, none⟩ = some (.bool t.ro) ∧ W.cell? ⟨b, off + (k + 1) * 5 + 3, none⟩ = some (.int .i64 t.lim) ∧ W.cell? ⟨b, off + (k + 1) * 5 + 4, none⟩ = some (.int .i64 t.mp)) (go_keep) (first
            | (go_at_call 42; (with_reducible refine (cI wr.drew).mono ?_); rintro e w1 ⟨rfl, b1⟩; have B1 := hB.drew.trans (b1.mono hbs); obtain ⟨e0, e1, e2, e3, e4, f0, f1, f2, f3, f4⟩ := HX.out w1 B1)
            | (go_at_call 42; (with_reducible refine (cJ w1).mono ?_); rintro e w2 ⟨rfl, b2⟩; have B2 := B1.trans (b2.mono B1.size); obtain ⟨e0, e1, e2, e3, e4, f0, f1, f2, f3, f4⟩ := HX.out w2 B2)
            | (go_at_call 42; (with_reducible refine (cJ wr.drew).mono ?_); rintro e w3 ⟨rfl, b1⟩; have B1 := hB.drew.trans (b1.mono hbs); obtain ⟨e0, e1, e2, e3, e4, f0, f1, f2, f3, f4⟩ := HX.out w3 B1)
            | (go_at_call 42; (with_reducible refine (cI w3).mono ?_); rintro e w2 ⟨rfl, b2⟩; have B2 := B1.trans (b2.mono B1.size); obtain ⟨e0, e1, e2, e3, e4, f0, f1, f2, f3, f4⟩ := HX.out w2 B2))
          all_goals (go_wp2_with fail; go_meet; exact ⟨rfl, B2⟩)
        case rest =>
        obtain ⟨rfl, B2⟩ := hcut
        clear p0 p1 p2 p3 p4 q0 q1 q2 q3 q4 cI cJ
        by_cases hless : i1 < j1
        · have hle : decide (j1 ≤ i1) = false := by simp; omega
          have hnx : Hid (∀ j, j < k + 1 + 1 → (decide (j = 0) || decide ((idsW rs).getD (j - 1) 0 < (idsW rs).getD j 0)) = true) := by
            intro j hj
            rcases (show j < k + 1 ∨ j = k + 1 by omega) with hj | rfl
            · exact hall.out j hj
            · rw [HAT.out, decide_eq_true hless]
          rw [hle]
          clear HAT hall HL hle
          go_wp2
          go_roundw
          all_goals first
            | (case rel => exact ⟨k + 1, by omega, by go_num, B2, hnx⟩)
            | (case rel => (repeat apply Exists.intro); exact ⟨⟨k + 1, by omega, by go_num, B2, hnx⟩, rfl⟩)
            | (case measure => simp [intOf]; omega)
        · have hle : decide (j1 ≤ i1) = true := by simp; omega
          have hfin : Hid (ascN (idsW rs) = false) := by show _ = _; rw [HL.out]; exact all_range_false hkn (by rw [HAT.out, decide_eq_false hless])
          rw [hle]
          clear HAT hall HL hle
          go_wp2
          go_ret
          exact ⟨ret_bool hfin.out.symm, B2⟩
      · have hki : ¬ ((k + 1 : Nat) : Int) < (n : Int) := by omega
        obtain rfl : k + 1 = n := by omega
        have hfin : Hid (ascN (idsW rs) = true) := by show _ = _; rw [HL.out]; exact all_range_true hall.out
        go_wp2
        go_ret
        exact ⟨ret_bool hfin.out.symm, hB⟩
end
end Go.Proofs.Ytmkcadnpleijdaa
