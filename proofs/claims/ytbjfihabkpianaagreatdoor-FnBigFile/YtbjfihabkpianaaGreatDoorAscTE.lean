/-
  The program's ascendingBy over inodes, by their numbers.
-/
import Derived.Test.YtbjfihabkpianaaGreatDoorJ03E
import Derived.Test.YtbjfihabkpianaaGreatDoorEntsOkE
namespace Go.Proofs.YtbjfihabkpianaaGreatDoor
open Go.RowKit
theorem inodeNumber_any (i1 i2 i3 : Int) (a1 a2 a3 : Option Addr) (n1 n2 n3 c1 c2 c3 : Nat) (w : World) : Calls Tryz.prog 117 #[.agg #[.int .i64 i1, .int .i64 i2, .int .i64 i3, .slice a1 n1 c1, .slice a2 n2 c2, .slice a3 n3 c3]] w fun e w' => e = .returned (.int .i64 i1) ∧ Below w.heap.size w w' := by
  go_enter Tryz.func117, Tryz.ntmps117
  go_wp2
  go_ret
  exact ⟨rfl, (Below.refl _ w).alloc (Nat.le_refl _) _⟩
/-- All ascend from the second one on. -/
def ascN (xs : List Int) : Bool := (List.range xs.length).all fun i => decide (i = 0) || decide (xs.getD (i - 1) 0 < xs.getD i 0)
theorem inos_length (rs : List InoR) : (inos rs).length = rs.length := by simp [inos]
theorem inos_at {rs : List InoR} {k : Nat} {r : InoR} (h : rs[k]? = some r) : (inos rs).getD k 0 = r.D.ino := by simp [inos, List.getD_eq_getElem?_getD, h]
set_option maxRecDepth 100000 in
set_option maxHeartbeats 4000000 in
theorem ascT_any (a : Option Addr) (n cap : Nat) (rs : List InoR) (w : World) (hn : rs.length = n) (hs : n ≤ 4000000) (hr : RdI w a rs) :
    Calls Tryz.prog 116 #[.slice a n cap, .func (.func 117) #[] #[]] w fun e w' => e = .returned (.bool (ascN (inos rs))) ∧ Below w.heap.size w w' := by
  have hlast : ascN (inos rs) = (List.range n).all fun i => decide (i = 0) || decide ((inos rs).getD (i - 1) 0 < (inos rs).getD i 0) := by unfold ascN; rw [inos_length, hn]
  by_cases h0 : n ≤ 1
  · have hfin : Hid (ascN (inos rs) = true) := by
      show _ = _
      rw [hlast]
      exact all_range_true (fun k hk => by obtain rfl := (show k = 0 by omega); rfl)
    have h01 : ¬ (1 : Int) < (n : Int) := by omega
    go_enter Tryz.func116, Tryz.ntmps116
    go_wp2
    refine wp_loop_rounds 1 ?_; rw [rounds_succ]
    go_wp2
    go_ret
    exact ⟨ret_bool hfin.out.symm, Below.refl _ _⟩
  · obtain ⟨b, off, rfl, hlt, hc⟩ := hr.lt (by intro h; subst h; simp at hn; omega)
    have HC : Hid _ := hc
    have hn' : Hid (rs.length = n) := hn
    have HL : Hid _ := hlast
    clear hr hc hn hlast
    go_enter Tryz.func116, Tryz.ntmps116
    go_wp2
    go_loopw [5] (fun i wr => ∃ k : Nat, k + 1 ≤ n ∧ i = .int .i64 ((k + 1 : Nat) : Int) ∧ Below w.heap.size w wr ∧ Hid (∀ j, j < k + 1 → (decide (j = 0) || decide ((inos rs).getD (j - 1) 0 < (inos rs).getD j 0)) = true)) (fun i _ => n - (intOf i).toNat)
    case atStart => exact ⟨0, by omega, rfl, Below.refl _ _, fun j hj => by obtain rfl := (show j = 0 by omega); rfl⟩
    case round =>
      obtain ⟨k, hk, rfl, hB, hall⟩ := hrel
      have hbs := hB.size
      by_cases hkn : k + 1 < n
      · have hki : ((k + 1 : Nat) : Int) < (n : Int) := by omega
        have hki0 : (k : Int) < (n : Int) := by omega
        have hk0 : (0 : Int) ≤ (k : Int) := by omega
        have hki2 : (k : Int) + 1 < (n : Int) := by omega
        have hk02 : (0 : Int) ≤ (k : Int) + 1 := by omega
        have hk03 : ((k : Int) + 1).toNat = k + 1 := by omega
        have hwk : IntKind.i64.wrap (k : Int) = (k : Int) := wrap_small _ hk0 (by omega)
        obtain ⟨r, hrk⟩ : ∃ r, rs[k]? = some r := ⟨_, List.getElem?_eq_getElem (by rw [hn'.out]; omega)⟩
        obtain ⟨t, htk⟩ : ∃ r, rs[k + 1]? = some r := ⟨_, List.getElem?_eq_getElem (by rw [hn'.out]; exact hkn)⟩
        obtain ⟨x6, _⟩ := HC.out k r hrk
        obtain ⟨y6, _⟩ := HC.out (k + 1) t htk
        have hX0 := fun (W : World) (hW : Below w.heap.size w W) => x6.keep hW hlt
        have hY0 := fun (W : World) (hW : Below w.heap.size w W) => y6.keep hW hlt
        have HX : Hid (∀ W : World, Below w.heap.size w W → W.cell? ⟨b, off + k * 6, none⟩ = some (.int .i64 r.D.ino) ∧ W.cell? ⟨b, off + k * 6 + 1, none⟩ = some (.int .i64 r.D.kind) ∧ W.cell? ⟨b, off + k * 6 + 2, none⟩ = some (.int .i64 r.D.links) ∧ W.cell? ⟨b, off + k * 6 + 3, none⟩ = some (.slice r.a1 r.D.data.length r.c1) ∧ W.cell? ⟨b, off + k * 6 + 4, none⟩ = some (.slice r.a2 r.D.ents.length r.c2) ∧ W.cell? ⟨b, off + k * 6 + 5, none⟩ = some (.slice r.a3 r.D.attrs.length r.c3) ∧ W.cell? ⟨b, off + (k + 1) * 6, none⟩ = some (.int .i64 t.D.ino) ∧ W.cell? ⟨b, off + (k + 1) * 6 + 1, none⟩ = some (.int .i64 t.D.kind) ∧ W.cell? ⟨b, off + (k + 1) * 6 + 2, none⟩ = some (.int .i64 t.D.links) ∧ W.cell? ⟨b, off + (k + 1) * 6 + 3, none⟩ = some (.slice t.a1 t.D.data.length t.c1) ∧ W.cell? ⟨b, off + (k + 1) * 6 + 4, none⟩ = some (.slice t.a2 t.D.ents.length t.c2) ∧ W.cell? ⟨b, off + (k + 1) * 6 + 5, none⟩ = some (.slice t.a3 t.D.attrs.length t.c3)) := fun W hW => ⟨(hX0 W hW).c0, (hX0 W hW).c1, (hX0 W hW).c2, (hX0 W hW).c3, (hX0 W hW).c4, (hX0 W hW).c5, (hY0 W hW).c0, (hY0 W hW).c1, (hY0 W hW).c2, (hY0 W hW).c3, (hY0 W hW).c4, (hY0 W hW).c5⟩
        have HAT : Hid ((decide (k + 1 = 0) || decide ((inos rs).getD (k + 1 - 1) 0 < (inos rs).getD (k + 1) 0)) = decide (r.D.ino < t.D.ino)) := by
          show _ = _
          rw [Nat.add_sub_cancel, inos_at hrk, inos_at htk]
          simp
        generalize r.D.ino = i1 at HX HAT
        generalize r.D.kind = i2 at HX
        generalize r.D.links = i3 at HX
        generalize r.D.data.length = n1 at HX
        generalize r.D.ents.length = n2 at HX
        generalize r.D.attrs.length = n3 at HX
        generalize t.D.ino = j1 at HX HAT
        generalize t.D.kind = j2 at HX
        generalize t.D.links = j3 at HX
        generalize t.D.data.length = m1 at HX
        generalize t.D.ents.length = m2 at HX
        generalize t.D.attrs.length = m3 at HX
        clear hX0 hY0 x6 y6 hrk htk
        obtain ⟨p0, p1, p2, p3, p4, p5, q0, q1, q2, q3, q4, q5⟩ := HX.out wr hB
        have cI := fun (W : World) => inodeNumber_any i1 i2 i3 r.a1 r.a2 r.a3 n1 n2 n3 r.c1 r.c2 r.c3 W
        have cJ := fun (W : World) => inodeNumber_any j1 j2 j3 t.a1 t.a2 t.a3 m1 m2 m3 t.c1 t.c2 t.c3 W
        go_upto_region 4 with fail
        go_cut [25] (fun s wx => s = .bool (decide (j1 ≤ i1)) ∧ Below w.heap.size w wx)
        case first =>
          go_region_held3 (fun W : World => W.cell? ⟨b, off + k * 6, none⟩ = some (.int .i64 i1) ∧ W.cell? ⟨b, off + k * 6 + 1, none⟩ = some (.int .i64 i2) ∧ W.cell? ⟨b, off + k * 6 + 2, none⟩ = some (.int .i64 i3) ∧ W.cell? ⟨b, off + k * 6 + 3, none⟩ = some (.slice r.a1 n1 r.c1) ∧ W.cell? ⟨b, off + k * 6 + 4, none⟩ = some (.slice r.a2 n2 r.c2) ∧ W.cell? ⟨b, off + k * 6 + 5, none⟩ = some (.slice r.a3 n3 r.c3) ∧ W.cell? ⟨b, off + (k + 1) * 6, none⟩ = some (.int .i64 j1) ∧ W.cell? ⟨b, off + (k + 1) * 6 + 1, none⟩ = some (.int .i64 j2) ∧ W.cell? ⟨b, off + (k + 1) * 6 + 2, none⟩ = some (.int .i64 j3) ∧ W.cell? ⟨b, off + (k + 1) * 6 + 3, none⟩ = some (.slice t.a1 m1 t.c1) ∧ W.cell? ⟨b, off + (k + 1) * 6 + 4, none⟩ = some (.slice t.a2 m2 t.c2) ∧ W.cell? ⟨b, off + (k + 1) * 6 + 5, none⟩ = some (.slice t.a3 m3 t.c3)) (go_keep) (first
            | (go_at_call 117; (with_reducible refine (cI wr.drew).mono ?_); rintro e w1 ⟨rfl, b1⟩; have B1 := hB.drew.trans (b1.mono hbs); obtain ⟨e0, e1, e2, e3, e4, e5, f0, f1, f2, f3, f4, f5⟩ := HX.out w1 B1)
            | (go_at_call 117; (with_reducible refine (cJ w1).mono ?_); rintro e w2 ⟨rfl, b2⟩; have B2 := B1.trans (b2.mono B1.size); obtain ⟨e0, e1, e2, e3, e4, e5, f0, f1, f2, f3, f4, f5⟩ := HX.out w2 B2)
            | (go_at_call 117; (with_reducible refine (cJ wr.drew).mono ?_); rintro e w3 ⟨rfl, b1⟩; have B1 := hB.drew.trans (b1.mono hbs); obtain ⟨e0, e1, e2, e3, e4, e5, f0, f1, f2, f3, f4, f5⟩ := HX.out w3 B1)
            | (go_at_call 117; (with_reducible refine (cI w3).mono ?_); rintro e w2 ⟨rfl, b2⟩; have B2 := B1.trans (b2.mono B1.size); obtain ⟨e0, e1, e2, e3, e4, e5, f0, f1, f2, f3, f4, f5⟩ := HX.out w2 B2))
          all_goals (go_wp2_with fail; go_meet; exact ⟨rfl, B2⟩)
        case rest =>
        obtain ⟨rfl, B2⟩ := hcut
        clear p0 p1 p2 p3 p4 p5 q0 q1 q2 q3 q4 q5 cI cJ
        by_cases hless : i1 < j1
        · have hle : decide (j1 ≤ i1) = false := by simp; omega
          have hnx : Hid (∀ j, j < k + 1 + 1 → (decide (j = 0) || decide ((inos rs).getD (j - 1) 0 < (inos rs).getD j 0)) = true) := by
            intro j hj
            rcases (show j < k + 1 ∨ j = k + 1 by omega) with hj | rfl
            · exact hall.out j hj
            · rw [HAT.out, decide_eq_true hless]
          rw [hle]
          clear HAT hall HL hle
          go_wp2
          go_roundw
          all_goals first
            | (case rel => exact ⟨k + 1, by omega, by go_num, B2, hnx⟩)
            | (case rel => (repeat apply Exists.intro); exact ⟨⟨k + 1, by omega, by go_num, B2, hnx⟩, rfl⟩)
            | (case measure => simp [intOf]; omega)
        · have hle : decide (j1 ≤ i1) = true := by simp; omega
          have hfin : Hid (ascN (inos rs) = false) := by show _ = _; rw [HL.out]; exact all_range_false hkn (by rw [HAT.out, decide_eq_false hless])
          rw [hle]
          clear HAT hall HL hle
          go_wp2
          go_ret
          exact ⟨ret_bool hfin.out.symm, B2⟩
      · have hki : ¬ ((k + 1 : Nat) : Int) < (n : Int) := by omega
        obtain rfl : k + 1 = n := by omega
        have hfin : Hid (ascN (inos rs) = true) := by show _ = _; rw [HL.out]; exact all_range_true hall.out
        go_wp2
        go_ret
        exact ⟨ret_bool hfin.out.symm, hB⟩
end Go.Proofs.YtbjfihabkpianaaGreatDoor

