/-
  What the specification's TabOk answers.
-/
import Derived.Test.YtfjlemnohjnkhaaGreatJ05F
import Derived.Test.YtfjlemnohjnkhaaGreatInoOkF
import Derived.Maps.OwnSet
import Derived.Maps.OwnOps
import Derived.Deep.CutBlock
import Derived.Deep.RegionHeld3
namespace Go.Proofs.YtfjlemnohjnkhaaGreat
open Go.RowKit
/-- One inode in its place. -/
def stepT (nx : Int) (rs : List InoR) (i : Nat) : Bool := inoOk (rs.getD i inoZ).D && (decide ((rs.getD i inoZ).D.ino < nx) && (decide (i = 0) || decide ((rs.getD (i - 1) inoZ).D.ino < (rs.getD i inoZ).D.ino)))
/-- What the specification's TabOk answers. -/
def tabS (nx : Int) (rs : List InoR) : Bool :=
  (decide (1 ≤ rs.length) && decide (rs.length ≤ 30)) && ((decide (2 ≤ nx) && decide (nx ≤ 1000)) && ((List.range rs.length).all (stepT nx rs) && (decide ((rs.getD 0 inoZ).D.ino = 1) && decide ((rs.getD 0 inoZ).D.kind = 2))))
set_option maxRecDepth 100000 in
set_option maxHeartbeats 4000000 in
theorem tabOkS (a : Option Addr) (n cap : Nat) (nx : Int) (rs : List InoR) (w : World) (hn : rs.length = n) (hs : n ≤ 4000000) (hsm : ∀ r ∈ rs, InoSmall r.D) (hr : RdI w a rs) :
    Calls Tryz.prog 42 #[.agg #[.slice a n cap, .int .i64 nx]] w fun e w' => e = .returned (.bool (tabS nx rs)) ∧ Below w.heap.size w w' := by
  have B0 : Below w.heap.size w (w.alloc (.cells #[.slice a n cap, .int .i64 nx] 47)) := (Below.refl _ w).alloc (Nat.le_refl _) _
  have hR : tabS nx rs = ((decide (1 ≤ n) && decide (n ≤ 30)) && ((decide (2 ≤ nx) && decide (nx ≤ 1000)) && ((List.range n).all (stepT nx rs) && (decide ((rs.getD 0 inoZ).D.ino = 1) && decide ((rs.getD 0 inoZ).D.kind = 2))))) := by unfold tabS; rw [hn]
  generalize tabS nx rs = R at hR ⊢
  have HB : Hid _ := B0
  have z0 := Blk.new w 47 #[.slice a n cap, .int .i64 nx]
  have hr0 := hr.keep B0
  have cL1 := fun (W : World) => l1In_any (n : Int) 1 30 W
  have cL2 := fun (W : World) => l1In_any nx 2 1000 W
  have hl1 : (decide (1 ≤ (n : Int)) && decide ((n : Int) ≤ 30)) = (decide (1 ≤ n) && decide (n ≤ 30)) := by
    congr 1
    · exact decide_eq_decide.2 (by omega)
    · exact decide_eq_decide.2 (by omega)
  rw [hl1] at cL1
  clear hl1
  cases hL1 : (decide (1 ≤ n) && decide (n ≤ 30)) with
  | false =>
    rw [hL1] at cL1 hR
    have HR : Hid _ := hR
    clear hR hr hr0 hsm cL2 z0 hL1
    go_enter Tryz.func42, Tryz.ntmps42
    go_wp2_with fail
    refine (cL1 _).mono ?_
    rintro e w1 ⟨rfl, hw⟩
    obtain rfl := hw.symm
    go_wp2
    go_ret
    exact ⟨ret_bool (by rw [HR.out, Bool.false_and]), HB.out⟩
  | true =>
    have hn1 : 1 ≤ n := by simp at hL1; exact hL1.1
    rw [hL1] at cL1 hR
    rw [Bool.true_and] at hR
    cases hL2 : (decide (2 ≤ nx) && decide (nx ≤ 1000)) with
    | false =>
      rw [hL2] at cL2 hR
      have HR : Hid _ := hR
      have t1 := z0.cell 1
      simp at t1
      clear hR hr hr0 hsm z0 hL1 hL2
      go_enter Tryz.func42, Tryz.ntmps42
      go_wp2_with fail
      refine (cL1 _).mono ?_
      rintro e w1 ⟨rfl, hw⟩
      obtain rfl := hw.symm
      go_wp2_with fail
      refine (cL2 _).mono ?_
      rintro e w1 ⟨rfl, hw⟩
      obtain rfl := hw.symm
      go_wp2
      go_ret
      exact ⟨ret_bool (by rw [HR.out, Bool.false_and]), HB.out⟩
    | true =>
      rw [hL2] at cL2 hR
      rw [Bool.true_and] at hR
      have hcell := fun (W : World) (hW : Below (w.alloc (.cells #[.slice a n cap, .int .i64 nx] 47)).heap.size (w.alloc (.cells #[.slice a n cap, .int .i64 nx] 47)) W) => RdI.keep hr0 hW
      have HCL : Hid _ := hcell
      have HS : Hid _ := hsm
      have hn' : Hid (rs.length = n) := hn
      have HR : Hid _ := hR
      clear hr hr0 hcell hsm hn hR hL1 hL2
      go_enter Tryz.func42, Tryz.ntmps42
      go_wp2_with fail
      refine (cL1 _).mono ?_
      rintro e w1 ⟨rfl, hw⟩
      obtain rfl := hw.symm
      go_wp2_with fail
      refine (cL2 _).mono ?_
      rintro e w1 ⟨rfl, hw⟩
      obtain rfl := hw.symm
      go_wp2
      obtain ⟨W0, hW0⟩ : ∃ W, w.alloc (.cells #[.slice a n cap, .int .i64 nx] 47) = W := ⟨_, rfl⟩
      rw [hW0] at B0 z0 HCL ⊢
      clear HB hW0 cL1 cL2
      have hws := B0.size
      go_loopw [3] (fun i wr => ∃ k : Nat, k ≤ n ∧ i = .int .i64 k ∧ Hid (∀ j, j < k → stepT nx rs j = true) ∧ Below W0.heap.size W0 wr) (fun i _ => n - (intOf i).toNat)
      case atStart => exact ⟨0, Nat.zero_le _, rfl, fun r hr => by omega, Below.refl _ _⟩
      case round =>
        obtain ⟨k', hk, rfl, hall, hB⟩ := hrel
        have hbz := hB.size
        by_cases hkn : k' < n
        · cases k' with
          | zero =>
            obtain ⟨r, hrk⟩ : ∃ r, rs[0]? = some r := ⟨_, List.getElem?_eq_getElem (by rw [hn'.out]; omega)⟩
            obtain ⟨b, off, rfl, hlt, hc⟩ := (HCL.out wr hB).lt (by intro h; have := hn'.out; rw [h] at this; simp at this; omega)
            have hki : (0 : Int) < (n : Int) := by omega
            obtain ⟨x6, xr⟩ := hc (0) r hrk
            obtain ⟨x0, x1, x2, x3, x4, x5⟩ := x6; simp only [Nat.zero_mul, Nat.add_zero] at x0 x1 x2 x3 x4 x5
            have hsr := HS.out r (List.mem_of_getElem? hrk)
            have hbA : Below wr.heap.size wr (wr.alloc (.cells #[.int .i64 r.D.ino, .int .i64 r.D.kind, .int .i64 r.D.links, .slice r.a1 r.D.data.length r.c1, .slice r.a2 r.D.ents.length r.c2, .slice r.a3 r.D.attrs.length r.c3] 85)) := (Below.refl _ wr).alloc (Nat.le_refl _) _
            have hcI := inoOkS r.D r.a1 r.a2 r.a3 r.c1 r.c2 r.c3 (wr.alloc (.cells #[.int .i64 r.D.ino, .int .i64 r.D.kind, .int .i64 r.D.links, .slice r.a1 r.D.data.length r.c1, .slice r.a2 r.D.ents.length r.c2, .slice r.a3 r.D.attrs.length r.c3] 85)).drew hsr (InoR.rd.keep xr hbA.drew)
            have bx := Blk.new wr 85 #[.int .i64 r.D.ino, .int .i64 r.D.kind, .int .i64 r.D.links, .slice r.a1 r.D.data.length r.c1, .slice r.a2 r.D.ents.length r.c2, .slice r.a3 r.D.attrs.length r.c3]
            have zk := (z0.keep hB).keep hbA
            have HX : Hid (∀ W : World, Below (wr.alloc (.cells #[.int .i64 r.D.ino, .int .i64 r.D.kind, .int .i64 r.D.links, .slice r.a1 r.D.data.length r.c1, .slice r.a2 r.D.ents.length r.c2, .slice r.a3 r.D.attrs.length r.c3] 85)).heap.size (wr.alloc (.cells #[.int .i64 r.D.ino, .int .i64 r.D.kind, .int .i64 r.D.links, .slice r.a1 r.D.data.length r.c1, .slice r.a2 r.D.ents.length r.c2, .slice r.a3 r.D.attrs.length r.c3] 85)) W → W.cell? ⟨wr.heap.size, 0, none⟩ = some (.int .i64 r.D.ino) ∧ W.cell? ⟨wr.heap.size, 1, none⟩ = some (.int .i64 r.D.kind) ∧ W.cell? ⟨wr.heap.size, 2, none⟩ = some (.int .i64 r.D.links) ∧ W.cell? ⟨wr.heap.size, 3, none⟩ = some (.slice r.a1 r.D.data.length r.c1) ∧ W.cell? ⟨wr.heap.size, 4, none⟩ = some (.slice r.a2 r.D.ents.length r.c2) ∧ W.cell? ⟨wr.heap.size, 5, none⟩ = some (.slice r.a3 r.D.attrs.length r.c3) ∧ W.cell? ⟨w.heap.size, 0, none⟩ = some (.slice (some ⟨b, off, none⟩) n cap) ∧ W.cell? ⟨w.heap.size, 1, none⟩ = some (.int .i64 nx)) := fun W hW => ⟨(bx.keep hW).cell 0, (bx.keep hW).cell 1, (bx.keep hW).cell 2, (bx.keep hW).cell 3, (bx.keep hW).cell 4, (bx.keep hW).cell 5, (zk.keep hW).cell 0, (zk.keep hW).cell 1⟩
            have hst : Hid (stepT nx rs (0) = (inoOk r.D && (decide (r.D.ino < nx) && true))) := by
              show _ = _
              unfold stepT
              simp [List.getD_eq_getElem?_getD, hrk]
            obtain ⟨t0, t1⟩ : wr.cell? ⟨w.heap.size, 0, none⟩ = some (.slice (some ⟨b, off, none⟩) n cap) ∧ wr.cell? ⟨w.heap.size, 1, none⟩ = some (.int .i64 nx) := ⟨(z0.keep hB).cell 0, (z0.keep hB).cell 1⟩
            unfold inoV at hcI
            generalize inoOk r.D = ok at hcI hst
            
            generalize r.D.ino = i1 at x0 hbA hcI bx zk HX hst
            generalize r.D.kind = i2 at x1 hbA hcI bx zk HX
            generalize r.D.links = i3 at x2 hbA hcI bx zk HX
            generalize r.D.data.length = n1 at x3 hbA hcI bx zk HX
            generalize r.D.ents.length = n2 at x4 hbA hcI bx zk HX
            generalize r.D.attrs.length = n3 at x5 hbA hcI bx zk HX
            obtain ⟨g0, g1, g2, g3, g4, g5, g6, g7⟩ := HX.out _ (Below.refl _ _)
            have HBA : Hid (Below (wr.alloc (.cells #[.int .i64 i1, .int .i64 i2, .int .i64 i3, .slice r.a1 n1 r.c1, .slice r.a2 n2 r.c2, .slice r.a3 n3 r.c3] 85)).heap.size (wr.alloc (.cells #[.int .i64 i1, .int .i64 i2, .int .i64 i3, .slice r.a1 n1 r.c1, .slice r.a2 n2 r.c2, .slice r.a3 n3 r.c3] 85)) (wr.alloc (.cells #[.int .i64 i1, .int .i64 i2, .int .i64 i3, .slice r.a1 n1 r.c1, .slice r.a2 n2 r.c2, .slice r.a3 n3 r.c3] 85))) := Below.refl _ _
            have HW1 : Hid _ := hbA
            clear hc hrk hsr xr bx zk hbA 
            go_upto_region 7 with fail
            go_cut [53] (fun s wx => s = .bool (!stepT nx rs (0)) ∧ Below W0.heap.size W0 wx)
            case first =>
              cases ok with
              | false =>
                refine wp_region_noPanic ?_
                refine wp_region_held_drew (S := fun W : World => W.cell? ⟨wr.heap.size, 0, none⟩ = some (.int .i64 i1) ∧ W.cell? ⟨wr.heap.size, 1, none⟩ = some (.int .i64 i2) ∧ W.cell? ⟨wr.heap.size, 2, none⟩ = some (.int .i64 i3) ∧ W.cell? ⟨wr.heap.size, 3, none⟩ = some (.slice r.a1 n1 r.c1) ∧ W.cell? ⟨wr.heap.size, 4, none⟩ = some (.slice r.a2 n2 r.c2) ∧ W.cell? ⟨wr.heap.size, 5, none⟩ = some (.slice r.a3 n3 r.c3) ∧ W.cell? ⟨w.heap.size, 0, none⟩ = some (.slice (some ⟨b, off, none⟩) n cap) ∧ W.cell? ⟨w.heap.size, 1, none⟩ = some (.int .i64 nx)) (by kernel_rfl) (by go_keep) (fun hS => ?_)
                refine wpAnyH_take (i := 0) (v := ?v1) rfl (by kernel_rfl) (by kernel_rfl) (by kernel_rfl) (fun _ _ _ h => h) (Or.inl ⟨by kernel_rfl, ?y1⟩) (by assumption) ?r1
                case y1 => (intro w' hSw; (try dsimp only at hSw); go_simp; (try with_reducible rfl))
                try simp only [Act.put, List.setIfInBounds_toArray, List.set_cons_zero, List.set_cons_succ, List.getElem_toArray, List.getElem_cons_zero]
                refine wpAnyH_ready (rs := [1]) (by kernel_rfl) (by simp) ?_
                refine AllReadyH.cons rfl (fun K hK => ?_) AllReadyH.nil
                go_simp
                go_at_call 76
                (with_reducible refine hcI.mono ?_)
                rintro e w1 ⟨rfl, b1⟩
                have B1 := HBA.out.drew.trans (b1.mono HBA.out.size)
                clear hS
                dsimp only
                refine Shut.out hK _ _ (HX.out w1 B1) (fun hS => ?_)
                try simp only [Act.put, List.setIfInBounds_toArray, List.set_cons_zero, List.set_cons_succ, List.getElem_toArray, List.getElem_cons_succ, List.getElem_cons_zero]
                refine wpAnyH_take (i := 2) (v := ?v2) rfl (by kernel_rfl) (by kernel_rfl) (by kernel_rfl) (fun _ _ _ h => h) (Or.inl ⟨by kernel_rfl, ?y2⟩) (by assumption) ?r2
                case y2 => (intro w' hSw; (try dsimp only at hSw); go_simp; (try with_reducible rfl))
                try simp only [Act.put, List.setIfInBounds_toArray, List.set_cons_zero, List.set_cons_succ, List.getElem_toArray, List.getElem_cons_succ, List.getElem_cons_zero]
                refine wpAnyH_take (i := 3) (v := ?v3) rfl (by kernel_rfl) (by kernel_rfl) (by kernel_rfl) (fun _ _ _ h => h) (Or.inl ⟨by kernel_rfl, ?y3⟩) (by assumption) ?r3
                case y3 => (intro w' hSw; (try dsimp only at hSw); go_simp; (try with_reducible rfl))
                try simp only [Act.put, List.setIfInBounds_toArray, List.set_cons_zero, List.set_cons_succ, List.getElem_toArray, List.getElem_cons_succ, List.getElem_cons_zero]
                refine wpAnyH_take (i := 4) (v := undef) rfl (by kernel_rfl) (by kernel_rfl) (by kernel_rfl) (fun _ _ _ h => h) (Or.inr ⟨by kernel_rfl, rfl⟩) (by assumption) ?_
                try simp only [Act.put, List.setIfInBounds_toArray, List.set_cons_zero, List.set_cons_succ, List.getElem_toArray, List.getElem_cons_succ, List.getElem_cons_zero]
                refine wpAnyH_take (i := 5) (v := undef) rfl (by kernel_rfl) (by kernel_rfl) (by kernel_rfl) (fun _ _ _ h => h) (Or.inr ⟨by kernel_rfl, rfl⟩) (by assumption) ?_
                try simp only [Act.put, List.setIfInBounds_toArray, List.set_cons_zero, List.set_cons_succ, List.getElem_toArray, List.getElem_cons_succ, List.getElem_cons_zero]
                refine wpAnyH_take (i := 6) (v := undef) rfl (by kernel_rfl) (by kernel_rfl) (by kernel_rfl) (fun _ _ _ h => h) (Or.inr ⟨by kernel_rfl, rfl⟩) (by assumption) ?_
                try simp only [Act.put, List.setIfInBounds_toArray, List.set_cons_zero, List.set_cons_succ, List.getElem_toArray, List.getElem_cons_succ, List.getElem_cons_zero]
                refine wpAnyH_take (i := 7) (v := undef) rfl (by kernel_rfl) (by kernel_rfl) (by kernel_rfl) (fun _ _ _ h => h) (Or.inr ⟨by kernel_rfl, rfl⟩) (by assumption) ?_
                try simp only [Act.put, List.setIfInBounds_toArray, List.set_cons_zero, List.set_cons_succ, List.getElem_toArray, List.getElem_cons_succ, List.getElem_cons_zero]
                refine wpAnyH_take (i := 8) (v := undef) rfl (by kernel_rfl) (by kernel_rfl) (by kernel_rfl) (fun _ _ _ h => h) (Or.inr ⟨by kernel_rfl, rfl⟩) (by assumption) ?_
                try simp only [Act.put, List.setIfInBounds_toArray, List.set_cons_zero, List.set_cons_succ, List.getElem_toArray, List.getElem_cons_succ, List.getElem_cons_zero]
                refine wpAnyH_take (i := 9) (v := ?v4) rfl (by kernel_rfl) (by kernel_rfl) (by kernel_rfl) (fun _ _ _ h => h) (Or.inl ⟨by kernel_rfl, ?y4⟩) (by assumption) ?r4
                case y4 => (intro w' hSw; (try dsimp only at hSw); go_simp; (try with_reducible rfl))
                try simp only [Act.put, List.setIfInBounds_toArray, List.set_cons_zero, List.set_cons_succ, List.getElem_toArray, List.getElem_cons_succ, List.getElem_cons_zero]
                refine wpAnyH_take (i := 10) (v := ?v5) rfl (by kernel_rfl) (by kernel_rfl) (by kernel_rfl) (fun _ _ _ h => h) (Or.inl ⟨by kernel_rfl, ?y5⟩) (by assumption) ?r5
                case y5 => (intro w' hSw; (try dsimp only at hSw); go_simp; (try with_reducible rfl))
                try simp only [Act.put, List.setIfInBounds_toArray, List.set_cons_zero, List.set_cons_succ, List.getElem_toArray, List.getElem_cons_succ, List.getElem_cons_zero]
                refine wpAnyH_take (i := 11) (v := undef) rfl (by kernel_rfl) (by kernel_rfl) (by kernel_rfl) (fun _ _ _ h => h) (Or.inr ⟨by kernel_rfl, rfl⟩) (by assumption) ?_
                try simp only [Act.put, List.setIfInBounds_toArray, List.set_cons_zero, List.set_cons_succ, List.getElem_toArray, List.getElem_cons_succ, List.getElem_cons_zero]
                refine wpAnyH_take (i := 12) (v := undef) rfl (by kernel_rfl) (by kernel_rfl) (by kernel_rfl) (fun _ _ _ h => h) (Or.inr ⟨by kernel_rfl, rfl⟩) (by assumption) ?_
                try simp only [Act.put, List.setIfInBounds_toArray, List.set_cons_zero, List.set_cons_succ, List.getElem_toArray, List.getElem_cons_succ, List.getElem_cons_zero]
                refine wpAnyH_take (i := 13) (v := undef) rfl (by kernel_rfl) (by kernel_rfl) (by kernel_rfl) (fun _ _ _ h => h) (Or.inr ⟨by kernel_rfl, rfl⟩) (by assumption) ?_
                try simp only [Act.put, List.setIfInBounds_toArray, List.set_cons_zero, List.set_cons_succ, List.getElem_toArray, List.getElem_cons_succ, List.getElem_cons_zero]
                refine wpAnyH_take (i := 14) (v := undef) rfl (by kernel_rfl) (by kernel_rfl) (by kernel_rfl) (fun _ _ _ h => h) (Or.inr ⟨by kernel_rfl, rfl⟩) (by assumption) ?_
                try simp only [Act.put, List.setIfInBounds_toArray, List.set_cons_zero, List.set_cons_succ, List.getElem_toArray, List.getElem_cons_succ, List.getElem_cons_zero]
                refine wpAnyH_take (i := 15) (v := undef) rfl (by kernel_rfl) (by kernel_rfl) (by kernel_rfl) (fun _ _ _ h => h) (Or.inr ⟨by kernel_rfl, rfl⟩) (by assumption) ?_
                try simp only [Act.put, List.setIfInBounds_toArray, List.set_cons_zero, List.set_cons_succ, List.getElem_toArray, List.getElem_cons_succ, List.getElem_cons_zero]
                refine wpAnyH_take (i := 16) (v := undef) rfl (by kernel_rfl) (by kernel_rfl) (by kernel_rfl) (fun _ _ _ h => h) (Or.inr ⟨by kernel_rfl, rfl⟩) (by assumption) ?_
                try simp only [Act.put, List.setIfInBounds_toArray, List.set_cons_zero, List.set_cons_succ, List.getElem_toArray, List.getElem_cons_succ, List.getElem_cons_zero]
                refine wpAnyH_take (i := 17) (v := undef) rfl (by kernel_rfl) (by kernel_rfl) (by kernel_rfl) (fun _ _ _ h => h) (Or.inr ⟨by kernel_rfl, rfl⟩) (by assumption) ?_
                try simp only [Act.put, List.setIfInBounds_toArray, List.set_cons_zero, List.set_cons_succ, List.getElem_toArray, List.getElem_cons_succ, List.getElem_cons_zero]
                refine wpAnyH_take (i := 18) (v := undef) rfl (by kernel_rfl) (by kernel_rfl) (by kernel_rfl) (fun _ _ _ h => h) (Or.inr ⟨by kernel_rfl, rfl⟩) (by assumption) ?_
                try simp only [Act.put, List.setIfInBounds_toArray, List.set_cons_zero, List.set_cons_succ, List.getElem_toArray, List.getElem_cons_succ, List.getElem_cons_zero]
                refine wpAnyH_take (i := 19) (v := undef) rfl (by kernel_rfl) (by kernel_rfl) (by kernel_rfl) (fun _ _ _ h => h) (Or.inr ⟨by kernel_rfl, rfl⟩) (by assumption) ?_
                try simp only [Act.put, List.setIfInBounds_toArray, List.set_cons_zero, List.set_cons_succ, List.getElem_toArray, List.getElem_cons_succ, List.getElem_cons_zero]
                refine wpAnyH_take (i := 20) (v := undef) rfl (by kernel_rfl) (by kernel_rfl) (by kernel_rfl) (fun _ _ _ h => h) (Or.inr ⟨by kernel_rfl, rfl⟩) (by assumption) ?_
                try simp only [Act.put, List.setIfInBounds_toArray, List.set_cons_zero, List.set_cons_succ, List.getElem_toArray, List.getElem_cons_succ, List.getElem_cons_zero]
                refine wpAnyH_take (i := 21) (v := undef) rfl (by kernel_rfl) (by kernel_rfl) (by kernel_rfl) (fun _ _ _ h => h) (Or.inr ⟨by kernel_rfl, rfl⟩) (by assumption) ?_
                try simp only [Act.put, List.setIfInBounds_toArray, List.set_cons_zero, List.set_cons_succ, List.getElem_toArray, List.getElem_cons_succ, List.getElem_cons_zero]
                refine wpAnyH_take (i := 22) (v := undef) rfl (by kernel_rfl) (by kernel_rfl) (by kernel_rfl) (fun _ _ _ h => h) (Or.inr ⟨by kernel_rfl, rfl⟩) (by assumption) ?_
                try simp only [Act.put, List.setIfInBounds_toArray, List.set_cons_zero, List.set_cons_succ, List.getElem_toArray, List.getElem_cons_succ, List.getElem_cons_zero]
                refine wpAnyH_take (i := 23) (v := undef) rfl (by kernel_rfl) (by kernel_rfl) (by kernel_rfl) (fun _ _ _ h => h) (Or.inr ⟨by kernel_rfl, rfl⟩) (by assumption) ?_
                try simp only [Act.put, List.setIfInBounds_toArray, List.set_cons_zero, List.set_cons_succ, List.getElem_toArray, List.getElem_cons_succ, List.getElem_cons_zero]
                refine wpAnyH_take (i := 24) (v := undef) rfl (by kernel_rfl) (by kernel_rfl) (by kernel_rfl) (fun _ _ _ h => h) (Or.inr ⟨by kernel_rfl, rfl⟩) (by assumption) ?_
                try simp only [Act.put, List.setIfInBounds_toArray, List.set_cons_zero, List.set_cons_succ, List.getElem_toArray, List.getElem_cons_succ, List.getElem_cons_zero]
                refine wpAnyH_take (i := 25) (v := ?v6) rfl (by kernel_rfl) (by kernel_rfl) (by kernel_rfl) (fun _ _ _ h => h) (Or.inl ⟨by kernel_rfl, ?y6⟩) (by assumption) ?r6
                case y6 => (intro w' hSw; (try dsimp only at hSw); go_simp; (try with_reducible rfl))
                try simp only [Act.put, List.setIfInBounds_toArray, List.set_cons_zero, List.set_cons_succ, List.getElem_toArray, List.getElem_cons_succ, List.getElem_cons_zero]
                refine wpAnyH_done (by kernel_rfl) (NoPanic.normal ?_) _
                go_wp2_with fail
                go_meet
                exact ⟨by rw [hst.out]; rfl, hB.trans ((HW1.out.trans (B1.mono HW1.out.size)).mono hbz)⟩
              | true =>
                by_cases hle : i1 < nx
                · have hle2 : ¬ nx ≤ i1 := by omega
                  have hleb : decide (nx ≤ i1) = false := by simp; omega
                  have hstt : Hid (stepT nx rs 0 = true) := by show _ = _; rw [hst.out, decide_eq_true hle]; rfl
                  refine wp_region_noPanic ?_
                  refine wp_region_held_drew (S := fun W : World => W.cell? ⟨wr.heap.size, 0, none⟩ = some (.int .i64 i1) ∧ W.cell? ⟨wr.heap.size, 1, none⟩ = some (.int .i64 i2) ∧ W.cell? ⟨wr.heap.size, 2, none⟩ = some (.int .i64 i3) ∧ W.cell? ⟨wr.heap.size, 3, none⟩ = some (.slice r.a1 n1 r.c1) ∧ W.cell? ⟨wr.heap.size, 4, none⟩ = some (.slice r.a2 n2 r.c2) ∧ W.cell? ⟨wr.heap.size, 5, none⟩ = some (.slice r.a3 n3 r.c3) ∧ W.cell? ⟨w.heap.size, 0, none⟩ = some (.slice (some ⟨b, off, none⟩) n cap) ∧ W.cell? ⟨w.heap.size, 1, none⟩ = some (.int .i64 nx)) (by kernel_rfl) (by go_keep) (fun hS => ?_)
                  refine wpAnyH_take (i := 0) (v := ?v7) rfl (by kernel_rfl) (by kernel_rfl) (by kernel_rfl) (fun _ _ _ h => h) (Or.inl ⟨by kernel_rfl, ?y7⟩) (by assumption) ?r7
                  case y7 => (intro w' hSw; (try dsimp only at hSw); go_simp; (try with_reducible rfl))
                  try simp only [Act.put, List.setIfInBounds_toArray, List.set_cons_zero, List.set_cons_succ, List.getElem_toArray, List.getElem_cons_zero]
                  refine wpAnyH_ready (rs := [1]) (by kernel_rfl) (by simp) ?_
                  refine AllReadyH.cons rfl (fun K hK => ?_) AllReadyH.nil
                  go_simp
                  go_at_call 76
                  (with_reducible refine hcI.mono ?_)
                  rintro e w1 ⟨rfl, b1⟩
                  have B1 := HBA.out.drew.trans (b1.mono HBA.out.size)
                  clear hS
                  dsimp only
                  refine Shut.out hK _ _ (HX.out w1 B1) (fun hS => ?_)
                  try simp only [Act.put, List.setIfInBounds_toArray, List.set_cons_zero, List.set_cons_succ, List.getElem_toArray, List.getElem_cons_succ, List.getElem_cons_zero]
                  refine wpAnyH_take (i := 2) (v := ?v8) rfl (by kernel_rfl) (by kernel_rfl) (by kernel_rfl) (fun _ _ _ h => h) (Or.inl ⟨by kernel_rfl, ?y8⟩) (by assumption) ?r8
                  case y8 => (intro w' hSw; (try dsimp only at hSw); go_simp; (try with_reducible rfl))
                  try simp only [Act.put, List.setIfInBounds_toArray, List.set_cons_zero, List.set_cons_succ, List.getElem_toArray, List.getElem_cons_succ, List.getElem_cons_zero]
                  refine wpAnyH_take (i := 3) (v := ?v9) rfl (by kernel_rfl) (by kernel_rfl) (by kernel_rfl) (fun _ _ _ h => h) (Or.inl ⟨by kernel_rfl, ?y9⟩) (by assumption) ?r9
                  case y9 => (intro w' hSw; (try dsimp only at hSw); go_simp; (try with_reducible rfl))
                  try simp only [Act.put, List.setIfInBounds_toArray, List.set_cons_zero, List.set_cons_succ, List.getElem_toArray, List.getElem_cons_succ, List.getElem_cons_zero]
                  refine wpAnyH_take (i := 4) (v := ?v10) rfl (by kernel_rfl) (by kernel_rfl) (by kernel_rfl) (fun _ _ _ h => h) (Or.inl ⟨by kernel_rfl, ?y10⟩) (by assumption) ?r10
                  case y10 => (intro w' hSw; (try dsimp only at hSw); go_simp; (try with_reducible rfl))
                  try simp only [Act.put, List.setIfInBounds_toArray, List.set_cons_zero, List.set_cons_succ, List.getElem_toArray, List.getElem_cons_succ, List.getElem_cons_zero]
                  refine wpAnyH_take (i := 5) (v := ?v11) rfl (by kernel_rfl) (by kernel_rfl) (by kernel_rfl) (fun _ _ _ h => h) (Or.inl ⟨by kernel_rfl, ?y11⟩) (by assumption) ?r11
                  case y11 => (intro w' hSw; (try dsimp only at hSw); go_simp; (try with_reducible rfl))
                  try simp only [Act.put, List.setIfInBounds_toArray, List.set_cons_zero, List.set_cons_succ, List.getElem_toArray, List.getElem_cons_succ, List.getElem_cons_zero]
                  refine wpAnyH_take (i := 6) (v := ?v12) rfl (by kernel_rfl) (by kernel_rfl) (by kernel_rfl) (fun _ _ _ h => h) (Or.inl ⟨by kernel_rfl, ?y12⟩) (by assumption) ?r12
                  case y12 => (intro w' hSw; (try dsimp only at hSw); go_simp; (try with_reducible rfl))
                  try simp only [Act.put, List.setIfInBounds_toArray, List.set_cons_zero, List.set_cons_succ, List.getElem_toArray, List.getElem_cons_succ, List.getElem_cons_zero]
                  refine wpAnyH_take (i := 7) (v := ?v13) rfl (by kernel_rfl) (by kernel_rfl) (by kernel_rfl) (fun _ _ _ h => h) (Or.inl ⟨by kernel_rfl, ?y13⟩) (by assumption) ?r13
                  case y13 => (intro w' hSw; (try dsimp only at hSw); go_simp; (try with_reducible rfl))
                  try simp only [Act.put, List.setIfInBounds_toArray, List.set_cons_zero, List.set_cons_succ, List.getElem_toArray, List.getElem_cons_succ, List.getElem_cons_zero]
                  refine wpAnyH_take (i := 8) (v := ?v14) rfl (by kernel_rfl) (by kernel_rfl) (by kernel_rfl) (fun _ _ _ h => h) (Or.inl ⟨by kernel_rfl, ?y14⟩) (by assumption) ?r14
                  case y14 => (intro w' hSw; (try dsimp only at hSw); go_simp; (try with_reducible rfl))
                  try simp only [Act.put, List.setIfInBounds_toArray, List.set_cons_zero, List.set_cons_succ, List.getElem_toArray, List.getElem_cons_succ, List.getElem_cons_zero]
                  refine wpAnyH_take (i := 9) (v := ?v15) rfl (by kernel_rfl) (by kernel_rfl) (by kernel_rfl) (fun _ _ _ h => h) (Or.inl ⟨by kernel_rfl, ?y15⟩) (by assumption) ?r15
                  case y15 => (intro w' hSw; (try dsimp only at hSw); go_simp; (try with_reducible rfl))
                  try simp only [Act.put, List.setIfInBounds_toArray, List.set_cons_zero, List.set_cons_succ, List.getElem_toArray, List.getElem_cons_succ, List.getElem_cons_zero]
                  refine wpAnyH_take (i := 10) (v := ?v16) rfl (by kernel_rfl) (by kernel_rfl) (by kernel_rfl) (fun _ _ _ h => h) (Or.inl ⟨by kernel_rfl, ?y16⟩) (by assumption) ?r16
                  case y16 => (intro w' hSw; (try dsimp only at hSw); go_simp; (try with_reducible rfl))
                  try simp only [Act.put, List.setIfInBounds_toArray, List.set_cons_zero, List.set_cons_succ, List.getElem_toArray, List.getElem_cons_succ, List.getElem_cons_zero]
                  refine wpAnyH_take (i := 11) (v := ?v17) rfl (by kernel_rfl) (by kernel_rfl) (by kernel_rfl) (fun _ _ _ h => h) (Or.inl ⟨by kernel_rfl, ?y17⟩) (by assumption) ?r17
                  case y17 => (intro w' hSw; (try dsimp only at hSw); go_simp; (try with_reducible rfl))
                  try simp only [Act.put, List.setIfInBounds_toArray, List.set_cons_zero, List.set_cons_succ, List.getElem_toArray, List.getElem_cons_succ, List.getElem_cons_zero]
                  refine wpAnyH_take (i := 12) (v := ?v18) rfl (by kernel_rfl) (by kernel_rfl) (by kernel_rfl) (fun _ _ _ h => h) (Or.inl ⟨by kernel_rfl, ?y18⟩) (by assumption) ?r18
                  case y18 => (intro w' hSw; (try dsimp only at hSw); go_simp; (try with_reducible rfl))
                  try simp only [Act.put, List.setIfInBounds_toArray, List.set_cons_zero, List.set_cons_succ, List.getElem_toArray, List.getElem_cons_succ, List.getElem_cons_zero]
                  refine wpAnyH_take (i := 13) (v := ?v19) rfl (by kernel_rfl) (by kernel_rfl) (by kernel_rfl) (fun _ _ _ h => h) (Or.inl ⟨by kernel_rfl, ?y19⟩) (by assumption) ?r19
                  case y19 => (intro w' hSw; (try dsimp only at hSw); go_simp; (try with_reducible rfl))
                  try simp only [Act.put, List.setIfInBounds_toArray, List.set_cons_zero, List.set_cons_succ, List.getElem_toArray, List.getElem_cons_succ, List.getElem_cons_zero]
                  refine wpAnyH_take (i := 14) (v := undef) rfl (by kernel_rfl) (by kernel_rfl) (by kernel_rfl) (fun _ _ _ h => h) (Or.inr ⟨by kernel_rfl, rfl⟩) (by assumption) ?_
                  try simp only [Act.put, List.setIfInBounds_toArray, List.set_cons_zero, List.set_cons_succ, List.getElem_toArray, List.getElem_cons_succ, List.getElem_cons_zero]
                  refine wpAnyH_take (i := 15) (v := undef) rfl (by kernel_rfl) (by kernel_rfl) (by kernel_rfl) (fun _ _ _ h => h) (Or.inr ⟨by kernel_rfl, rfl⟩) (by assumption) ?_
                  try simp only [Act.put, List.setIfInBounds_toArray, List.set_cons_zero, List.set_cons_succ, List.getElem_toArray, List.getElem_cons_succ, List.getElem_cons_zero]
                  refine wpAnyH_take (i := 16) (v := undef) rfl (by kernel_rfl) (by kernel_rfl) (by kernel_rfl) (fun _ _ _ h => h) (Or.inr ⟨by kernel_rfl, rfl⟩) (by assumption) ?_
                  try simp only [Act.put, List.setIfInBounds_toArray, List.set_cons_zero, List.set_cons_succ, List.getElem_toArray, List.getElem_cons_succ, List.getElem_cons_zero]
                  refine wpAnyH_take (i := 17) (v := undef) rfl (by kernel_rfl) (by kernel_rfl) (by kernel_rfl) (fun _ _ _ h => h) (Or.inr ⟨by kernel_rfl, rfl⟩) (by assumption) ?_
                  try simp only [Act.put, List.setIfInBounds_toArray, List.set_cons_zero, List.set_cons_succ, List.getElem_toArray, List.getElem_cons_succ, List.getElem_cons_zero]
                  refine wpAnyH_take (i := 18) (v := undef) rfl (by kernel_rfl) (by kernel_rfl) (by kernel_rfl) (fun _ _ _ h => h) (Or.inr ⟨by kernel_rfl, rfl⟩) (by assumption) ?_
                  try simp only [Act.put, List.setIfInBounds_toArray, List.set_cons_zero, List.set_cons_succ, List.getElem_toArray, List.getElem_cons_succ, List.getElem_cons_zero]
                  refine wpAnyH_take (i := 19) (v := undef) rfl (by kernel_rfl) (by kernel_rfl) (by kernel_rfl) (fun _ _ _ h => h) (Or.inr ⟨by kernel_rfl, rfl⟩) (by assumption) ?_
                  try simp only [Act.put, List.setIfInBounds_toArray, List.set_cons_zero, List.set_cons_succ, List.getElem_toArray, List.getElem_cons_succ, List.getElem_cons_zero]
                  refine wpAnyH_take (i := 20) (v := undef) rfl (by kernel_rfl) (by kernel_rfl) (by kernel_rfl) (fun _ _ _ h => h) (Or.inr ⟨by kernel_rfl, rfl⟩) (by assumption) ?_
                  try simp only [Act.put, List.setIfInBounds_toArray, List.set_cons_zero, List.set_cons_succ, List.getElem_toArray, List.getElem_cons_succ, List.getElem_cons_zero]
                  refine wpAnyH_take (i := 21) (v := undef) rfl (by kernel_rfl) (by kernel_rfl) (by kernel_rfl) (fun _ _ _ h => h) (Or.inr ⟨by kernel_rfl, rfl⟩) (by assumption) ?_
                  try simp only [Act.put, List.setIfInBounds_toArray, List.set_cons_zero, List.set_cons_succ, List.getElem_toArray, List.getElem_cons_succ, List.getElem_cons_zero]
                  refine wpAnyH_take (i := 22) (v := undef) rfl (by kernel_rfl) (by kernel_rfl) (by kernel_rfl) (fun _ _ _ h => h) (Or.inr ⟨by kernel_rfl, rfl⟩) (by assumption) ?_
                  try simp only [Act.put, List.setIfInBounds_toArray, List.set_cons_zero, List.set_cons_succ, List.getElem_toArray, List.getElem_cons_succ, List.getElem_cons_zero]
                  refine wpAnyH_take (i := 23) (v := undef) rfl (by kernel_rfl) (by kernel_rfl) (by kernel_rfl) (fun _ _ _ h => h) (Or.inr ⟨by kernel_rfl, rfl⟩) (by assumption) ?_
                  try simp only [Act.put, List.setIfInBounds_toArray, List.set_cons_zero, List.set_cons_succ, List.getElem_toArray, List.getElem_cons_succ, List.getElem_cons_zero]
                  refine wpAnyH_take (i := 24) (v := ?v20) rfl (by kernel_rfl) (by kernel_rfl) (by kernel_rfl) (fun _ _ _ h => h) (Or.inl ⟨by kernel_rfl, ?y20⟩) (by assumption) ?r20
                  case y20 => (intro w' hSw; (try dsimp only at hSw); go_simp; (try with_reducible rfl))
                  try simp only [Act.put, List.setIfInBounds_toArray, List.set_cons_zero, List.set_cons_succ, List.getElem_toArray, List.getElem_cons_succ, List.getElem_cons_zero]
                  refine wpAnyH_take (i := 25) (v := ?v21) rfl (by kernel_rfl) (by kernel_rfl) (by kernel_rfl) (fun _ _ _ h => h) (Or.inl ⟨by kernel_rfl, ?y21⟩) (by assumption) ?r21
                  case y21 => (intro w' hSw; (try dsimp only at hSw); go_simp; (try with_reducible rfl))
                  try simp only [Act.put, List.setIfInBounds_toArray, List.set_cons_zero, List.set_cons_succ, List.getElem_toArray, List.getElem_cons_succ, List.getElem_cons_zero]
                  refine wpAnyH_done (by kernel_rfl) (NoPanic.normal ?_) _
                  go_wp2_with fail
                  go_meet
                  exact ⟨by rw [hstt.out]; rfl, hB.trans ((HW1.out.trans (B1.mono HW1.out.size)).mono hbz)⟩
                · have hle2 : nx ≤ i1 := by omega
                  have hleb : decide (nx ≤ i1) = true := by simp; omega
                  have hstt : Hid (stepT nx rs (0) = false) := by show _ = _; rw [hst.out, decide_eq_false hle]; rfl
                  refine wp_region_noPanic ?_
                  refine wp_region_held_drew (S := fun W : World => W.cell? ⟨wr.heap.size, 0, none⟩ = some (.int .i64 i1) ∧ W.cell? ⟨wr.heap.size, 1, none⟩ = some (.int .i64 i2) ∧ W.cell? ⟨wr.heap.size, 2, none⟩ = some (.int .i64 i3) ∧ W.cell? ⟨wr.heap.size, 3, none⟩ = some (.slice r.a1 n1 r.c1) ∧ W.cell? ⟨wr.heap.size, 4, none⟩ = some (.slice r.a2 n2 r.c2) ∧ W.cell? ⟨wr.heap.size, 5, none⟩ = some (.slice r.a3 n3 r.c3) ∧ W.cell? ⟨w.heap.size, 0, none⟩ = some (.slice (some ⟨b, off, none⟩) n cap) ∧ W.cell? ⟨w.heap.size, 1, none⟩ = some (.int .i64 nx)) (by kernel_rfl) (by go_keep) (fun hS => ?_)
                  refine wpAnyH_take (i := 0) (v := ?v22) rfl (by kernel_rfl) (by kernel_rfl) (by kernel_rfl) (fun _ _ _ h => h) (Or.inl ⟨by kernel_rfl, ?y22⟩) (by assumption) ?r22
                  case y22 => (intro w' hSw; (try dsimp only at hSw); go_simp; (try with_reducible rfl))
                  try simp only [Act.put, List.setIfInBounds_toArray, List.set_cons_zero, List.set_cons_succ, List.getElem_toArray, List.getElem_cons_zero]
                  refine wpAnyH_ready (rs := [1]) (by kernel_rfl) (by simp) ?_
                  refine AllReadyH.cons rfl (fun K hK => ?_) AllReadyH.nil
                  go_simp
                  go_at_call 76
                  (with_reducible refine hcI.mono ?_)
                  rintro e w1 ⟨rfl, b1⟩
                  have B1 := HBA.out.drew.trans (b1.mono HBA.out.size)
                  clear hS
                  dsimp only
                  refine Shut.out hK _ _ (HX.out w1 B1) (fun hS => ?_)
                  try simp only [Act.put, List.setIfInBounds_toArray, List.set_cons_zero, List.set_cons_succ, List.getElem_toArray, List.getElem_cons_succ, List.getElem_cons_zero]
                  refine wpAnyH_take (i := 2) (v := ?v23) rfl (by kernel_rfl) (by kernel_rfl) (by kernel_rfl) (fun _ _ _ h => h) (Or.inl ⟨by kernel_rfl, ?y23⟩) (by assumption) ?r23
                  case y23 => (intro w' hSw; (try dsimp only at hSw); go_simp; (try with_reducible rfl))
                  try simp only [Act.put, List.setIfInBounds_toArray, List.set_cons_zero, List.set_cons_succ, List.getElem_toArray, List.getElem_cons_succ, List.getElem_cons_zero]
                  refine wpAnyH_take (i := 3) (v := ?v24) rfl (by kernel_rfl) (by kernel_rfl) (by kernel_rfl) (fun _ _ _ h => h) (Or.inl ⟨by kernel_rfl, ?y24⟩) (by assumption) ?r24
                  case y24 => (intro w' hSw; (try dsimp only at hSw); go_simp; (try with_reducible rfl))
                  try simp only [Act.put, List.setIfInBounds_toArray, List.set_cons_zero, List.set_cons_succ, List.getElem_toArray, List.getElem_cons_succ, List.getElem_cons_zero]
                  refine wpAnyH_take (i := 4) (v := ?v25) rfl (by kernel_rfl) (by kernel_rfl) (by kernel_rfl) (fun _ _ _ h => h) (Or.inl ⟨by kernel_rfl, ?y25⟩) (by assumption) ?r25
                  case y25 => (intro w' hSw; (try dsimp only at hSw); go_simp; (try with_reducible rfl))
                  try simp only [Act.put, List.setIfInBounds_toArray, List.set_cons_zero, List.set_cons_succ, List.getElem_toArray, List.getElem_cons_succ, List.getElem_cons_zero]
                  refine wpAnyH_take (i := 5) (v := ?v26) rfl (by kernel_rfl) (by kernel_rfl) (by kernel_rfl) (fun _ _ _ h => h) (Or.inl ⟨by kernel_rfl, ?y26⟩) (by assumption) ?r26
                  case y26 => (intro w' hSw; (try dsimp only at hSw); go_simp; (try with_reducible rfl))
                  try simp only [Act.put, List.setIfInBounds_toArray, List.set_cons_zero, List.set_cons_succ, List.getElem_toArray, List.getElem_cons_succ, List.getElem_cons_zero]
                  refine wpAnyH_take (i := 6) (v := ?v27) rfl (by kernel_rfl) (by kernel_rfl) (by kernel_rfl) (fun _ _ _ h => h) (Or.inl ⟨by kernel_rfl, ?y27⟩) (by assumption) ?r27
                  case y27 => (intro w' hSw; (try dsimp only at hSw); go_simp; (try with_reducible rfl))
                  try simp only [Act.put, List.setIfInBounds_toArray, List.set_cons_zero, List.set_cons_succ, List.getElem_toArray, List.getElem_cons_succ, List.getElem_cons_zero]
                  refine wpAnyH_take (i := 7) (v := ?v28) rfl (by kernel_rfl) (by kernel_rfl) (by kernel_rfl) (fun _ _ _ h => h) (Or.inl ⟨by kernel_rfl, ?y28⟩) (by assumption) ?r28
                  case y28 => (intro w' hSw; (try dsimp only at hSw); go_simp; (try with_reducible rfl))
                  try simp only [Act.put, List.setIfInBounds_toArray, List.set_cons_zero, List.set_cons_succ, List.getElem_toArray, List.getElem_cons_succ, List.getElem_cons_zero]
                  refine wpAnyH_take (i := 8) (v := ?v29) rfl (by kernel_rfl) (by kernel_rfl) (by kernel_rfl) (fun _ _ _ h => h) (Or.inl ⟨by kernel_rfl, ?y29⟩) (by assumption) ?r29
                  case y29 => (intro w' hSw; (try dsimp only at hSw); go_simp; (try with_reducible rfl))
                  try simp only [Act.put, List.setIfInBounds_toArray, List.set_cons_zero, List.set_cons_succ, List.getElem_toArray, List.getElem_cons_succ, List.getElem_cons_zero]
                  refine wpAnyH_take (i := 9) (v := ?v30) rfl (by kernel_rfl) (by kernel_rfl) (by kernel_rfl) (fun _ _ _ h => h) (Or.inl ⟨by kernel_rfl, ?y30⟩) (by assumption) ?r30
                  case y30 => (intro w' hSw; (try dsimp only at hSw); go_simp; (try with_reducible rfl))
                  try simp only [Act.put, List.setIfInBounds_toArray, List.set_cons_zero, List.set_cons_succ, List.getElem_toArray, List.getElem_cons_succ, List.getElem_cons_zero]
                  refine wpAnyH_take (i := 10) (v := ?v31) rfl (by kernel_rfl) (by kernel_rfl) (by kernel_rfl) (fun _ _ _ h => h) (Or.inl ⟨by kernel_rfl, ?y31⟩) (by assumption) ?r31
                  case y31 => (intro w' hSw; (try dsimp only at hSw); go_simp; (try with_reducible rfl))
                  try simp only [Act.put, List.setIfInBounds_toArray, List.set_cons_zero, List.set_cons_succ, List.getElem_toArray, List.getElem_cons_succ, List.getElem_cons_zero]
                  refine wpAnyH_take (i := 11) (v := undef) rfl (by kernel_rfl) (by kernel_rfl) (by kernel_rfl) (fun _ _ _ h => h) (Or.inr ⟨by kernel_rfl, rfl⟩) (by assumption) ?_
                  try simp only [Act.put, List.setIfInBounds_toArray, List.set_cons_zero, List.set_cons_succ, List.getElem_toArray, List.getElem_cons_succ, List.getElem_cons_zero]
                  refine wpAnyH_take (i := 12) (v := undef) rfl (by kernel_rfl) (by kernel_rfl) (by kernel_rfl) (fun _ _ _ h => h) (Or.inr ⟨by kernel_rfl, rfl⟩) (by assumption) ?_
                  try simp only [Act.put, List.setIfInBounds_toArray, List.set_cons_zero, List.set_cons_succ, List.getElem_toArray, List.getElem_cons_succ, List.getElem_cons_zero]
                  refine wpAnyH_take (i := 13) (v := undef) rfl (by kernel_rfl) (by kernel_rfl) (by kernel_rfl) (fun _ _ _ h => h) (Or.inr ⟨by kernel_rfl, rfl⟩) (by assumption) ?_
                  try simp only [Act.put, List.setIfInBounds_toArray, List.set_cons_zero, List.set_cons_succ, List.getElem_toArray, List.getElem_cons_succ, List.getElem_cons_zero]
                  refine wpAnyH_take (i := 14) (v := undef) rfl (by kernel_rfl) (by kernel_rfl) (by kernel_rfl) (fun _ _ _ h => h) (Or.inr ⟨by kernel_rfl, rfl⟩) (by assumption) ?_
                  try simp only [Act.put, List.setIfInBounds_toArray, List.set_cons_zero, List.set_cons_succ, List.getElem_toArray, List.getElem_cons_succ, List.getElem_cons_zero]
                  refine wpAnyH_take (i := 15) (v := undef) rfl (by kernel_rfl) (by kernel_rfl) (by kernel_rfl) (fun _ _ _ h => h) (Or.inr ⟨by kernel_rfl, rfl⟩) (by assumption) ?_
                  try simp only [Act.put, List.setIfInBounds_toArray, List.set_cons_zero, List.set_cons_succ, List.getElem_toArray, List.getElem_cons_succ, List.getElem_cons_zero]
                  refine wpAnyH_take (i := 16) (v := undef) rfl (by kernel_rfl) (by kernel_rfl) (by kernel_rfl) (fun _ _ _ h => h) (Or.inr ⟨by kernel_rfl, rfl⟩) (by assumption) ?_
                  try simp only [Act.put, List.setIfInBounds_toArray, List.set_cons_zero, List.set_cons_succ, List.getElem_toArray, List.getElem_cons_succ, List.getElem_cons_zero]
                  refine wpAnyH_take (i := 17) (v := undef) rfl (by kernel_rfl) (by kernel_rfl) (by kernel_rfl) (fun _ _ _ h => h) (Or.inr ⟨by kernel_rfl, rfl⟩) (by assumption) ?_
                  try simp only [Act.put, List.setIfInBounds_toArray, List.set_cons_zero, List.set_cons_succ, List.getElem_toArray, List.getElem_cons_succ, List.getElem_cons_zero]
                  refine wpAnyH_take (i := 18) (v := undef) rfl (by kernel_rfl) (by kernel_rfl) (by kernel_rfl) (fun _ _ _ h => h) (Or.inr ⟨by kernel_rfl, rfl⟩) (by assumption) ?_
                  try simp only [Act.put, List.setIfInBounds_toArray, List.set_cons_zero, List.set_cons_succ, List.getElem_toArray, List.getElem_cons_succ, List.getElem_cons_zero]
                  refine wpAnyH_take (i := 19) (v := undef) rfl (by kernel_rfl) (by kernel_rfl) (by kernel_rfl) (fun _ _ _ h => h) (Or.inr ⟨by kernel_rfl, rfl⟩) (by assumption) ?_
                  try simp only [Act.put, List.setIfInBounds_toArray, List.set_cons_zero, List.set_cons_succ, List.getElem_toArray, List.getElem_cons_succ, List.getElem_cons_zero]
                  refine wpAnyH_take (i := 20) (v := undef) rfl (by kernel_rfl) (by kernel_rfl) (by kernel_rfl) (fun _ _ _ h => h) (Or.inr ⟨by kernel_rfl, rfl⟩) (by assumption) ?_
                  try simp only [Act.put, List.setIfInBounds_toArray, List.set_cons_zero, List.set_cons_succ, List.getElem_toArray, List.getElem_cons_succ, List.getElem_cons_zero]
                  refine wpAnyH_take (i := 21) (v := undef) rfl (by kernel_rfl) (by kernel_rfl) (by kernel_rfl) (fun _ _ _ h => h) (Or.inr ⟨by kernel_rfl, rfl⟩) (by assumption) ?_
                  try simp only [Act.put, List.setIfInBounds_toArray, List.set_cons_zero, List.set_cons_succ, List.getElem_toArray, List.getElem_cons_succ, List.getElem_cons_zero]
                  refine wpAnyH_take (i := 22) (v := undef) rfl (by kernel_rfl) (by kernel_rfl) (by kernel_rfl) (fun _ _ _ h => h) (Or.inr ⟨by kernel_rfl, rfl⟩) (by assumption) ?_
                  try simp only [Act.put, List.setIfInBounds_toArray, List.set_cons_zero, List.set_cons_succ, List.getElem_toArray, List.getElem_cons_succ, List.getElem_cons_zero]
                  refine wpAnyH_take (i := 23) (v := undef) rfl (by kernel_rfl) (by kernel_rfl) (by kernel_rfl) (fun _ _ _ h => h) (Or.inr ⟨by kernel_rfl, rfl⟩) (by assumption) ?_
                  try simp only [Act.put, List.setIfInBounds_toArray, List.set_cons_zero, List.set_cons_succ, List.getElem_toArray, List.getElem_cons_succ, List.getElem_cons_zero]
                  refine wpAnyH_take (i := 24) (v := undef) rfl (by kernel_rfl) (by kernel_rfl) (by kernel_rfl) (fun _ _ _ h => h) (Or.inr ⟨by kernel_rfl, rfl⟩) (by assumption) ?_
                  try simp only [Act.put, List.setIfInBounds_toArray, List.set_cons_zero, List.set_cons_succ, List.getElem_toArray, List.getElem_cons_succ, List.getElem_cons_zero]
                  refine wpAnyH_take (i := 25) (v := ?v32) rfl (by kernel_rfl) (by kernel_rfl) (by kernel_rfl) (fun _ _ _ h => h) (Or.inl ⟨by kernel_rfl, ?y32⟩) (by assumption) ?r32
                  case y32 => (intro w' hSw; (try dsimp only at hSw); go_simp; (try with_reducible rfl))
                  try simp only [Act.put, List.setIfInBounds_toArray, List.set_cons_zero, List.set_cons_succ, List.getElem_toArray, List.getElem_cons_succ, List.getElem_cons_zero]
                  refine wpAnyH_done (by kernel_rfl) (NoPanic.normal ?_) _
                  go_wp2_with fail
                  go_meet
                  exact ⟨by rw [hstt.out]; rfl, hB.trans ((HW1.out.trans (B1.mono HW1.out.size)).mono hbz)⟩
            case rest =>
            obtain ⟨rfl, B1⟩ := hcut
            clear g0 g1 g2 g3 g4 g5 g6 g7 x0 x1 x2 x3 x4 x5 t0 t1 hcI HX hst
            cases hbad : stepT nx rs (0) with
            | true =>
              have hnx : Hid (∀ j, j < 0 + 1 → stepT nx rs j = true) := by
                intro j hj
                rcases (show j < 0 ∨ j = 0 by omega) with hj | rfl
                · exact hall.out j hj
                · exact hbad
              clear hall
              go_wp2
              go_roundw
              all_goals first
                | (case rel => exact ⟨0 + 1, by omega, by go_num, hnx, B1⟩)
                | (case rel => (repeat apply Exists.intro); exact ⟨⟨0 + 1, by omega, by go_num, hnx, B1⟩, rfl⟩)
                | (case measure => simp [intOf]; omega)
            | false =>
              have hRf : Hid (false = R) := by show _ = _; rw [HR.out, show (List.range n).all (stepT nx rs) = false from all_range_false (show 0 < n by omega) hbad]; simp
              clear hall
              go_wp2
              go_ret
              exact ⟨ret_bool hRf.out, B0.trans (B1.mono hws)⟩
          | succ k =>
            obtain ⟨r, hrk⟩ : ∃ r, rs[k + 1]? = some r := ⟨_, List.getElem?_eq_getElem (by rw [hn'.out]; omega)⟩
            obtain ⟨b, off, rfl, hlt, hc⟩ := (HCL.out wr hB).lt (by intro h; have := hn'.out; rw [h] at this; simp at this; omega)
            have hki : ((k + 1 : Nat) : Int) < (n : Int) := by omega
            have hki0 : (k : Int) < (n : Int) := by omega
            have hk0 : (0 : Int) ≤ (k : Int) := by omega
            have hki2 : (k : Int) + 1 < (n : Int) := by omega
            have hk02 : (0 : Int) ≤ (k : Int) + 1 := by omega
            have hk03 : ((k : Int) + 1).toNat = k + 1 := by omega
            have hpos : (0 : Int) < ((k + 1 : Nat) : Int) := by omega
            have hpos2 : (0 : Int) < (k : Int) + 1 := by omega
            have hwk : IntKind.i64.wrap (k : Int) = (k : Int) := wrap_small _ hk0 (by omega)
            obtain ⟨q, hqk⟩ : ∃ r, rs[k]? = some r := ⟨_, List.getElem?_eq_getElem (by rw [hn'.out]; omega)⟩
            obtain ⟨y6, _⟩ := hc k q hqk
            obtain ⟨x6, xr⟩ := hc (k + 1) r hrk
            obtain ⟨x0, x1, x2, x3, x4, x5⟩ := x6
            have hsr := HS.out r (List.mem_of_getElem? hrk)
            have hbA : Below wr.heap.size wr (wr.alloc (.cells #[.int .i64 r.D.ino, .int .i64 r.D.kind, .int .i64 r.D.links, .slice r.a1 r.D.data.length r.c1, .slice r.a2 r.D.ents.length r.c2, .slice r.a3 r.D.attrs.length r.c3] 85)) := (Below.refl _ wr).alloc (Nat.le_refl _) _
            have hcI := inoOkS r.D r.a1 r.a2 r.a3 r.c1 r.c2 r.c3 (wr.alloc (.cells #[.int .i64 r.D.ino, .int .i64 r.D.kind, .int .i64 r.D.links, .slice r.a1 r.D.data.length r.c1, .slice r.a2 r.D.ents.length r.c2, .slice r.a3 r.D.attrs.length r.c3] 85)).drew hsr (InoR.rd.keep xr hbA.drew)
            have bx := Blk.new wr 85 #[.int .i64 r.D.ino, .int .i64 r.D.kind, .int .i64 r.D.links, .slice r.a1 r.D.data.length r.c1, .slice r.a2 r.D.ents.length r.c2, .slice r.a3 r.D.attrs.length r.c3]
            have zk := (z0.keep hB).keep hbA
            have HX : Hid (∀ W : World, Below (wr.alloc (.cells #[.int .i64 r.D.ino, .int .i64 r.D.kind, .int .i64 r.D.links, .slice r.a1 r.D.data.length r.c1, .slice r.a2 r.D.ents.length r.c2, .slice r.a3 r.D.attrs.length r.c3] 85)).heap.size (wr.alloc (.cells #[.int .i64 r.D.ino, .int .i64 r.D.kind, .int .i64 r.D.links, .slice r.a1 r.D.data.length r.c1, .slice r.a2 r.D.ents.length r.c2, .slice r.a3 r.D.attrs.length r.c3] 85)) W → W.cell? ⟨wr.heap.size, 0, none⟩ = some (.int .i64 r.D.ino) ∧ W.cell? ⟨wr.heap.size, 1, none⟩ = some (.int .i64 r.D.kind) ∧ W.cell? ⟨wr.heap.size, 2, none⟩ = some (.int .i64 r.D.links) ∧ W.cell? ⟨wr.heap.size, 3, none⟩ = some (.slice r.a1 r.D.data.length r.c1) ∧ W.cell? ⟨wr.heap.size, 4, none⟩ = some (.slice r.a2 r.D.ents.length r.c2) ∧ W.cell? ⟨wr.heap.size, 5, none⟩ = some (.slice r.a3 r.D.attrs.length r.c3) ∧ W.cell? ⟨w.heap.size, 0, none⟩ = some (.slice (some ⟨b, off, none⟩) n cap) ∧ W.cell? ⟨w.heap.size, 1, none⟩ = some (.int .i64 nx) ∧ W.cell? ⟨b, off + k * 6, none⟩ = some (.int .i64 q.D.ino)) := fun W hW => ⟨(bx.keep hW).cell 0, (bx.keep hW).cell 1, (bx.keep hW).cell 2, (bx.keep hW).cell 3, (bx.keep hW).cell 4, (bx.keep hW).cell 5, (zk.keep hW).cell 0, (zk.keep hW).cell 1, ((y6.keep hbA y6.lt).keep hW (by simp; exact Nat.lt_succ_of_lt y6.lt)).c0⟩
            have hst : Hid (stepT nx rs (k + 1) = (inoOk r.D && (decide (r.D.ino < nx) && decide (q.D.ino < r.D.ino)))) := by
              show _ = _
              unfold stepT
              rw [Nat.add_sub_cancel]; simp [List.getD_eq_getElem?_getD, hrk, hqk]
            obtain ⟨t0, t1⟩ : wr.cell? ⟨w.heap.size, 0, none⟩ = some (.slice (some ⟨b, off, none⟩) n cap) ∧ wr.cell? ⟨w.heap.size, 1, none⟩ = some (.int .i64 nx) := ⟨(z0.keep hB).cell 0, (z0.keep hB).cell 1⟩
            unfold inoV at hcI
            generalize inoOk r.D = ok at hcI hst
            generalize q.D.ino = p1 at HX hst
            generalize r.D.ino = i1 at x0 hbA hcI bx zk HX hst
            generalize r.D.kind = i2 at x1 hbA hcI bx zk HX
            generalize r.D.links = i3 at x2 hbA hcI bx zk HX
            generalize r.D.data.length = n1 at x3 hbA hcI bx zk HX
            generalize r.D.ents.length = n2 at x4 hbA hcI bx zk HX
            generalize r.D.attrs.length = n3 at x5 hbA hcI bx zk HX
            obtain ⟨g0, g1, g2, g3, g4, g5, g6, g7, g8⟩ := HX.out _ (Below.refl _ _)
            have HBA : Hid (Below (wr.alloc (.cells #[.int .i64 i1, .int .i64 i2, .int .i64 i3, .slice r.a1 n1 r.c1, .slice r.a2 n2 r.c2, .slice r.a3 n3 r.c3] 85)).heap.size (wr.alloc (.cells #[.int .i64 i1, .int .i64 i2, .int .i64 i3, .slice r.a1 n1 r.c1, .slice r.a2 n2 r.c2, .slice r.a3 n3 r.c3] 85)) (wr.alloc (.cells #[.int .i64 i1, .int .i64 i2, .int .i64 i3, .slice r.a1 n1 r.c1, .slice r.a2 n2 r.c2, .slice r.a3 n3 r.c3] 85))) := Below.refl _ _
            have HW1 : Hid _ := hbA
            clear hc hrk hsr xr bx zk hbA hqk y6
            go_upto_region 7 with fail
            go_cut [53] (fun s wx => s = .bool (!stepT nx rs (k + 1)) ∧ Below W0.heap.size W0 wx)
            case first =>
              cases ok with
              | false =>
                refine wp_region_noPanic ?_
                refine wp_region_held_drew (S := fun W : World => W.cell? ⟨wr.heap.size, 0, none⟩ = some (.int .i64 i1) ∧ W.cell? ⟨wr.heap.size, 1, none⟩ = some (.int .i64 i2) ∧ W.cell? ⟨wr.heap.size, 2, none⟩ = some (.int .i64 i3) ∧ W.cell? ⟨wr.heap.size, 3, none⟩ = some (.slice r.a1 n1 r.c1) ∧ W.cell? ⟨wr.heap.size, 4, none⟩ = some (.slice r.a2 n2 r.c2) ∧ W.cell? ⟨wr.heap.size, 5, none⟩ = some (.slice r.a3 n3 r.c3) ∧ W.cell? ⟨w.heap.size, 0, none⟩ = some (.slice (some ⟨b, off, none⟩) n cap) ∧ W.cell? ⟨w.heap.size, 1, none⟩ = some (.int .i64 nx) ∧ W.cell? ⟨b, off + k * 6, none⟩ = some (.int .i64 p1)) (by kernel_rfl) (by go_keep) (fun hS => ?_)
                refine wpAnyH_take (i := 0) (v := ?v33) rfl (by kernel_rfl) (by kernel_rfl) (by kernel_rfl) (fun _ _ _ h => h) (Or.inl ⟨by kernel_rfl, ?y33⟩) (by assumption) ?r33
                case y33 => (intro w' hSw; (try dsimp only at hSw); go_simp; (try with_reducible rfl))
                try simp only [Act.put, List.setIfInBounds_toArray, List.set_cons_zero, List.set_cons_succ, List.getElem_toArray, List.getElem_cons_zero]
                refine wpAnyH_ready (rs := [1]) (by kernel_rfl) (by simp) ?_
                refine AllReadyH.cons rfl (fun K hK => ?_) AllReadyH.nil
                go_simp
                go_at_call 76
                (with_reducible refine hcI.mono ?_)
                rintro e w1 ⟨rfl, b1⟩
                have B1 := HBA.out.drew.trans (b1.mono HBA.out.size)
                clear hS
                dsimp only
                refine Shut.out hK _ _ (HX.out w1 B1) (fun hS => ?_)
                try simp only [Act.put, List.setIfInBounds_toArray, List.set_cons_zero, List.set_cons_succ, List.getElem_toArray, List.getElem_cons_succ, List.getElem_cons_zero]
                refine wpAnyH_take (i := 2) (v := ?v34) rfl (by kernel_rfl) (by kernel_rfl) (by kernel_rfl) (fun _ _ _ h => h) (Or.inl ⟨by kernel_rfl, ?y34⟩) (by assumption) ?r34
                case y34 => (intro w' hSw; (try dsimp only at hSw); go_simp; (try with_reducible rfl))
                try simp only [Act.put, List.setIfInBounds_toArray, List.set_cons_zero, List.set_cons_succ, List.getElem_toArray, List.getElem_cons_succ, List.getElem_cons_zero]
                refine wpAnyH_take (i := 3) (v := ?v35) rfl (by kernel_rfl) (by kernel_rfl) (by kernel_rfl) (fun _ _ _ h => h) (Or.inl ⟨by kernel_rfl, ?y35⟩) (by assumption) ?r35
                case y35 => (intro w' hSw; (try dsimp only at hSw); go_simp; (try with_reducible rfl))
                try simp only [Act.put, List.setIfInBounds_toArray, List.set_cons_zero, List.set_cons_succ, List.getElem_toArray, List.getElem_cons_succ, List.getElem_cons_zero]
                refine wpAnyH_take (i := 4) (v := undef) rfl (by kernel_rfl) (by kernel_rfl) (by kernel_rfl) (fun _ _ _ h => h) (Or.inr ⟨by kernel_rfl, rfl⟩) (by assumption) ?_
                try simp only [Act.put, List.setIfInBounds_toArray, List.set_cons_zero, List.set_cons_succ, List.getElem_toArray, List.getElem_cons_succ, List.getElem_cons_zero]
                refine wpAnyH_take (i := 5) (v := undef) rfl (by kernel_rfl) (by kernel_rfl) (by kernel_rfl) (fun _ _ _ h => h) (Or.inr ⟨by kernel_rfl, rfl⟩) (by assumption) ?_
                try simp only [Act.put, List.setIfInBounds_toArray, List.set_cons_zero, List.set_cons_succ, List.getElem_toArray, List.getElem_cons_succ, List.getElem_cons_zero]
                refine wpAnyH_take (i := 6) (v := undef) rfl (by kernel_rfl) (by kernel_rfl) (by kernel_rfl) (fun _ _ _ h => h) (Or.inr ⟨by kernel_rfl, rfl⟩) (by assumption) ?_
                try simp only [Act.put, List.setIfInBounds_toArray, List.set_cons_zero, List.set_cons_succ, List.getElem_toArray, List.getElem_cons_succ, List.getElem_cons_zero]
                refine wpAnyH_take (i := 7) (v := undef) rfl (by kernel_rfl) (by kernel_rfl) (by kernel_rfl) (fun _ _ _ h => h) (Or.inr ⟨by kernel_rfl, rfl⟩) (by assumption) ?_
                try simp only [Act.put, List.setIfInBounds_toArray, List.set_cons_zero, List.set_cons_succ, List.getElem_toArray, List.getElem_cons_succ, List.getElem_cons_zero]
                refine wpAnyH_take (i := 8) (v := undef) rfl (by kernel_rfl) (by kernel_rfl) (by kernel_rfl) (fun _ _ _ h => h) (Or.inr ⟨by kernel_rfl, rfl⟩) (by assumption) ?_
                try simp only [Act.put, List.setIfInBounds_toArray, List.set_cons_zero, List.set_cons_succ, List.getElem_toArray, List.getElem_cons_succ, List.getElem_cons_zero]
                refine wpAnyH_take (i := 9) (v := ?v36) rfl (by kernel_rfl) (by kernel_rfl) (by kernel_rfl) (fun _ _ _ h => h) (Or.inl ⟨by kernel_rfl, ?y36⟩) (by assumption) ?r36
                case y36 => (intro w' hSw; (try dsimp only at hSw); go_simp; (try with_reducible rfl))
                try simp only [Act.put, List.setIfInBounds_toArray, List.set_cons_zero, List.set_cons_succ, List.getElem_toArray, List.getElem_cons_succ, List.getElem_cons_zero]
                refine wpAnyH_take (i := 10) (v := ?v37) rfl (by kernel_rfl) (by kernel_rfl) (by kernel_rfl) (fun _ _ _ h => h) (Or.inl ⟨by kernel_rfl, ?y37⟩) (by assumption) ?r37
                case y37 => (intro w' hSw; (try dsimp only at hSw); go_simp; (try with_reducible rfl))
                try simp only [Act.put, List.setIfInBounds_toArray, List.set_cons_zero, List.set_cons_succ, List.getElem_toArray, List.getElem_cons_succ, List.getElem_cons_zero]
                refine wpAnyH_take (i := 11) (v := undef) rfl (by kernel_rfl) (by kernel_rfl) (by kernel_rfl) (fun _ _ _ h => h) (Or.inr ⟨by kernel_rfl, rfl⟩) (by assumption) ?_
                try simp only [Act.put, List.setIfInBounds_toArray, List.set_cons_zero, List.set_cons_succ, List.getElem_toArray, List.getElem_cons_succ, List.getElem_cons_zero]
                refine wpAnyH_take (i := 12) (v := undef) rfl (by kernel_rfl) (by kernel_rfl) (by kernel_rfl) (fun _ _ _ h => h) (Or.inr ⟨by kernel_rfl, rfl⟩) (by assumption) ?_
                try simp only [Act.put, List.setIfInBounds_toArray, List.set_cons_zero, List.set_cons_succ, List.getElem_toArray, List.getElem_cons_succ, List.getElem_cons_zero]
                refine wpAnyH_take (i := 13) (v := undef) rfl (by kernel_rfl) (by kernel_rfl) (by kernel_rfl) (fun _ _ _ h => h) (Or.inr ⟨by kernel_rfl, rfl⟩) (by assumption) ?_
                try simp only [Act.put, List.setIfInBounds_toArray, List.set_cons_zero, List.set_cons_succ, List.getElem_toArray, List.getElem_cons_succ, List.getElem_cons_zero]
                refine wpAnyH_take (i := 14) (v := undef) rfl (by kernel_rfl) (by kernel_rfl) (by kernel_rfl) (fun _ _ _ h => h) (Or.inr ⟨by kernel_rfl, rfl⟩) (by assumption) ?_
                try simp only [Act.put, List.setIfInBounds_toArray, List.set_cons_zero, List.set_cons_succ, List.getElem_toArray, List.getElem_cons_succ, List.getElem_cons_zero]
                refine wpAnyH_take (i := 15) (v := undef) rfl (by kernel_rfl) (by kernel_rfl) (by kernel_rfl) (fun _ _ _ h => h) (Or.inr ⟨by kernel_rfl, rfl⟩) (by assumption) ?_
                try simp only [Act.put, List.setIfInBounds_toArray, List.set_cons_zero, List.set_cons_succ, List.getElem_toArray, List.getElem_cons_succ, List.getElem_cons_zero]
                refine wpAnyH_take (i := 16) (v := undef) rfl (by kernel_rfl) (by kernel_rfl) (by kernel_rfl) (fun _ _ _ h => h) (Or.inr ⟨by kernel_rfl, rfl⟩) (by assumption) ?_
                try simp only [Act.put, List.setIfInBounds_toArray, List.set_cons_zero, List.set_cons_succ, List.getElem_toArray, List.getElem_cons_succ, List.getElem_cons_zero]
                refine wpAnyH_take (i := 17) (v := undef) rfl (by kernel_rfl) (by kernel_rfl) (by kernel_rfl) (fun _ _ _ h => h) (Or.inr ⟨by kernel_rfl, rfl⟩) (by assumption) ?_
                try simp only [Act.put, List.setIfInBounds_toArray, List.set_cons_zero, List.set_cons_succ, List.getElem_toArray, List.getElem_cons_succ, List.getElem_cons_zero]
                refine wpAnyH_take (i := 18) (v := undef) rfl (by kernel_rfl) (by kernel_rfl) (by kernel_rfl) (fun _ _ _ h => h) (Or.inr ⟨by kernel_rfl, rfl⟩) (by assumption) ?_
                try simp only [Act.put, List.setIfInBounds_toArray, List.set_cons_zero, List.set_cons_succ, List.getElem_toArray, List.getElem_cons_succ, List.getElem_cons_zero]
                refine wpAnyH_take (i := 19) (v := undef) rfl (by kernel_rfl) (by kernel_rfl) (by kernel_rfl) (fun _ _ _ h => h) (Or.inr ⟨by kernel_rfl, rfl⟩) (by assumption) ?_
                try simp only [Act.put, List.setIfInBounds_toArray, List.set_cons_zero, List.set_cons_succ, List.getElem_toArray, List.getElem_cons_succ, List.getElem_cons_zero]
                refine wpAnyH_take (i := 20) (v := undef) rfl (by kernel_rfl) (by kernel_rfl) (by kernel_rfl) (fun _ _ _ h => h) (Or.inr ⟨by kernel_rfl, rfl⟩) (by assumption) ?_
                try simp only [Act.put, List.setIfInBounds_toArray, List.set_cons_zero, List.set_cons_succ, List.getElem_toArray, List.getElem_cons_succ, List.getElem_cons_zero]
                refine wpAnyH_take (i := 21) (v := undef) rfl (by kernel_rfl) (by kernel_rfl) (by kernel_rfl) (fun _ _ _ h => h) (Or.inr ⟨by kernel_rfl, rfl⟩) (by assumption) ?_
                try simp only [Act.put, List.setIfInBounds_toArray, List.set_cons_zero, List.set_cons_succ, List.getElem_toArray, List.getElem_cons_succ, List.getElem_cons_zero]
                refine wpAnyH_take (i := 22) (v := undef) rfl (by kernel_rfl) (by kernel_rfl) (by kernel_rfl) (fun _ _ _ h => h) (Or.inr ⟨by kernel_rfl, rfl⟩) (by assumption) ?_
                try simp only [Act.put, List.setIfInBounds_toArray, List.set_cons_zero, List.set_cons_succ, List.getElem_toArray, List.getElem_cons_succ, List.getElem_cons_zero]
                refine wpAnyH_take (i := 23) (v := undef) rfl (by kernel_rfl) (by kernel_rfl) (by kernel_rfl) (fun _ _ _ h => h) (Or.inr ⟨by kernel_rfl, rfl⟩) (by assumption) ?_
                try simp only [Act.put, List.setIfInBounds_toArray, List.set_cons_zero, List.set_cons_succ, List.getElem_toArray, List.getElem_cons_succ, List.getElem_cons_zero]
                refine wpAnyH_take (i := 24) (v := undef) rfl (by kernel_rfl) (by kernel_rfl) (by kernel_rfl) (fun _ _ _ h => h) (Or.inr ⟨by kernel_rfl, rfl⟩) (by assumption) ?_
                try simp only [Act.put, List.setIfInBounds_toArray, List.set_cons_zero, List.set_cons_succ, List.getElem_toArray, List.getElem_cons_succ, List.getElem_cons_zero]
                refine wpAnyH_take (i := 25) (v := ?v38) rfl (by kernel_rfl) (by kernel_rfl) (by kernel_rfl) (fun _ _ _ h => h) (Or.inl ⟨by kernel_rfl, ?y38⟩) (by assumption) ?r38
                case y38 => (intro w' hSw; (try dsimp only at hSw); go_simp; (try with_reducible rfl))
                try simp only [Act.put, List.setIfInBounds_toArray, List.set_cons_zero, List.set_cons_succ, List.getElem_toArray, List.getElem_cons_succ, List.getElem_cons_zero]
                refine wpAnyH_done (by kernel_rfl) (NoPanic.normal ?_) _
                go_wp2_with fail
                go_meet
                exact ⟨by rw [hst.out]; rfl, hB.trans ((HW1.out.trans (B1.mono HW1.out.size)).mono hbz)⟩
              | true =>
                by_cases hle : i1 < nx
                · have hle2 : ¬ nx ≤ i1 := by omega
                  have hleb : decide (nx ≤ i1) = false := by simp; omega
                  by_cases hlp : p1 < i1
                  · have hlp2 : ¬ i1 ≤ p1 := by omega
                    have hlpb : decide (i1 ≤ p1) = false := by simp; omega
                    have hstt : Hid (stepT nx rs (k + 1) = true) := by show _ = _; rw [hst.out, decide_eq_true hle, decide_eq_true hlp]; rfl
                    go_region_held3 (fun W : World => W.cell? ⟨wr.heap.size, 0, none⟩ = some (.int .i64 i1) ∧ W.cell? ⟨wr.heap.size, 1, none⟩ = some (.int .i64 i2) ∧ W.cell? ⟨wr.heap.size, 2, none⟩ = some (.int .i64 i3) ∧ W.cell? ⟨wr.heap.size, 3, none⟩ = some (.slice r.a1 n1 r.c1) ∧ W.cell? ⟨wr.heap.size, 4, none⟩ = some (.slice r.a2 n2 r.c2) ∧ W.cell? ⟨wr.heap.size, 5, none⟩ = some (.slice r.a3 n3 r.c3) ∧ W.cell? ⟨w.heap.size, 0, none⟩ = some (.slice (some ⟨b, off, none⟩) n cap) ∧ W.cell? ⟨w.heap.size, 1, none⟩ = some (.int .i64 nx) ∧ W.cell? ⟨b, off + k * 6, none⟩ = some (.int .i64 p1)) (go_keep) ((go_at_call 76; (with_reducible refine hcI.mono ?_); rintro e w1 ⟨rfl, b1⟩; have B1 := HBA.out.drew.trans (b1.mono HBA.out.size); obtain ⟨e0, e1, e2, e3, e4, e5, e6, e7, e8⟩ := HX.out w1 B1))
                    all_goals (go_wp2_with fail; go_meet; exact ⟨by rw [hstt.out]; rfl, hB.trans ((HW1.out.trans (B1.mono HW1.out.size)).mono hbz)⟩)
                  · have hlp2 : i1 ≤ p1 := by omega
                    have hlpb : decide (i1 ≤ p1) = true := by simp; omega
                    have hstt : Hid (stepT nx rs (k + 1) = false) := by show _ = _; rw [hst.out, decide_eq_true hle, decide_eq_false hlp]; rfl
                    go_region_held3 (fun W : World => W.cell? ⟨wr.heap.size, 0, none⟩ = some (.int .i64 i1) ∧ W.cell? ⟨wr.heap.size, 1, none⟩ = some (.int .i64 i2) ∧ W.cell? ⟨wr.heap.size, 2, none⟩ = some (.int .i64 i3) ∧ W.cell? ⟨wr.heap.size, 3, none⟩ = some (.slice r.a1 n1 r.c1) ∧ W.cell? ⟨wr.heap.size, 4, none⟩ = some (.slice r.a2 n2 r.c2) ∧ W.cell? ⟨wr.heap.size, 5, none⟩ = some (.slice r.a3 n3 r.c3) ∧ W.cell? ⟨w.heap.size, 0, none⟩ = some (.slice (some ⟨b, off, none⟩) n cap) ∧ W.cell? ⟨w.heap.size, 1, none⟩ = some (.int .i64 nx) ∧ W.cell? ⟨b, off + k * 6, none⟩ = some (.int .i64 p1)) (go_keep) ((go_at_call 76; (with_reducible refine hcI.mono ?_); rintro e w1 ⟨rfl, b1⟩; have B1 := HBA.out.drew.trans (b1.mono HBA.out.size); obtain ⟨e0, e1, e2, e3, e4, e5, e6, e7, e8⟩ := HX.out w1 B1))
                    all_goals (go_wp2_with fail; go_meet; exact ⟨by rw [hstt.out]; rfl, hB.trans ((HW1.out.trans (B1.mono HW1.out.size)).mono hbz)⟩)
                · have hle2 : nx ≤ i1 := by omega
                  have hleb : decide (nx ≤ i1) = true := by simp; omega
                  have hstt : Hid (stepT nx rs (k + 1) = false) := by show _ = _; rw [hst.out, decide_eq_false hle]; rfl
                  refine wp_region_noPanic ?_
                  refine wp_region_held_drew (S := fun W : World => W.cell? ⟨wr.heap.size, 0, none⟩ = some (.int .i64 i1) ∧ W.cell? ⟨wr.heap.size, 1, none⟩ = some (.int .i64 i2) ∧ W.cell? ⟨wr.heap.size, 2, none⟩ = some (.int .i64 i3) ∧ W.cell? ⟨wr.heap.size, 3, none⟩ = some (.slice r.a1 n1 r.c1) ∧ W.cell? ⟨wr.heap.size, 4, none⟩ = some (.slice r.a2 n2 r.c2) ∧ W.cell? ⟨wr.heap.size, 5, none⟩ = some (.slice r.a3 n3 r.c3) ∧ W.cell? ⟨w.heap.size, 0, none⟩ = some (.slice (some ⟨b, off, none⟩) n cap) ∧ W.cell? ⟨w.heap.size, 1, none⟩ = some (.int .i64 nx) ∧ W.cell? ⟨b, off + k * 6, none⟩ = some (.int .i64 p1)) (by kernel_rfl) (by go_keep) (fun hS => ?_)
                  refine wpAnyH_take (i := 0) (v := ?v39) rfl (by kernel_rfl) (by kernel_rfl) (by kernel_rfl) (fun _ _ _ h => h) (Or.inl ⟨by kernel_rfl, ?y39⟩) (by assumption) ?r39
                  case y39 => (intro w' hSw; (try dsimp only at hSw); go_simp; (try with_reducible rfl))
                  try simp only [Act.put, List.setIfInBounds_toArray, List.set_cons_zero, List.set_cons_succ, List.getElem_toArray, List.getElem_cons_zero]
                  refine wpAnyH_ready (rs := [1]) (by kernel_rfl) (by simp) ?_
                  refine AllReadyH.cons rfl (fun K hK => ?_) AllReadyH.nil
                  go_simp
                  go_at_call 76
                  (with_reducible refine hcI.mono ?_)
                  rintro e w1 ⟨rfl, b1⟩
                  have B1 := HBA.out.drew.trans (b1.mono HBA.out.size)
                  clear hS
                  dsimp only
                  refine Shut.out hK _ _ (HX.out w1 B1) (fun hS => ?_)
                  try simp only [Act.put, List.setIfInBounds_toArray, List.set_cons_zero, List.set_cons_succ, List.getElem_toArray, List.getElem_cons_succ, List.getElem_cons_zero]
                  refine wpAnyH_take (i := 2) (v := ?v40) rfl (by kernel_rfl) (by kernel_rfl) (by kernel_rfl) (fun _ _ _ h => h) (Or.inl ⟨by kernel_rfl, ?y40⟩) (by assumption) ?r40
                  case y40 => (intro w' hSw; (try dsimp only at hSw); go_simp; (try with_reducible rfl))
                  try simp only [Act.put, List.setIfInBounds_toArray, List.set_cons_zero, List.set_cons_succ, List.getElem_toArray, List.getElem_cons_succ, List.getElem_cons_zero]
                  refine wpAnyH_take (i := 3) (v := ?v41) rfl (by kernel_rfl) (by kernel_rfl) (by kernel_rfl) (fun _ _ _ h => h) (Or.inl ⟨by kernel_rfl, ?y41⟩) (by assumption) ?r41
                  case y41 => (intro w' hSw; (try dsimp only at hSw); go_simp; (try with_reducible rfl))
                  try simp only [Act.put, List.setIfInBounds_toArray, List.set_cons_zero, List.set_cons_succ, List.getElem_toArray, List.getElem_cons_succ, List.getElem_cons_zero]
                  refine wpAnyH_take (i := 4) (v := ?v42) rfl (by kernel_rfl) (by kernel_rfl) (by kernel_rfl) (fun _ _ _ h => h) (Or.inl ⟨by kernel_rfl, ?y42⟩) (by assumption) ?r42
                  case y42 => (intro w' hSw; (try dsimp only at hSw); go_simp; (try with_reducible rfl))
                  try simp only [Act.put, List.setIfInBounds_toArray, List.set_cons_zero, List.set_cons_succ, List.getElem_toArray, List.getElem_cons_succ, List.getElem_cons_zero]
                  refine wpAnyH_take (i := 5) (v := ?v43) rfl (by kernel_rfl) (by kernel_rfl) (by kernel_rfl) (fun _ _ _ h => h) (Or.inl ⟨by kernel_rfl, ?y43⟩) (by assumption) ?r43
                  case y43 => (intro w' hSw; (try dsimp only at hSw); go_simp; (try with_reducible rfl))
                  try simp only [Act.put, List.setIfInBounds_toArray, List.set_cons_zero, List.set_cons_succ, List.getElem_toArray, List.getElem_cons_succ, List.getElem_cons_zero]
                  refine wpAnyH_take (i := 6) (v := ?v44) rfl (by kernel_rfl) (by kernel_rfl) (by kernel_rfl) (fun _ _ _ h => h) (Or.inl ⟨by kernel_rfl, ?y44⟩) (by assumption) ?r44
                  case y44 => (intro w' hSw; (try dsimp only at hSw); go_simp; (try with_reducible rfl))
                  try simp only [Act.put, List.setIfInBounds_toArray, List.set_cons_zero, List.set_cons_succ, List.getElem_toArray, List.getElem_cons_succ, List.getElem_cons_zero]
                  refine wpAnyH_take (i := 7) (v := ?v45) rfl (by kernel_rfl) (by kernel_rfl) (by kernel_rfl) (fun _ _ _ h => h) (Or.inl ⟨by kernel_rfl, ?y45⟩) (by assumption) ?r45
                  case y45 => (intro w' hSw; (try dsimp only at hSw); go_simp; (try with_reducible rfl))
                  try simp only [Act.put, List.setIfInBounds_toArray, List.set_cons_zero, List.set_cons_succ, List.getElem_toArray, List.getElem_cons_succ, List.getElem_cons_zero]
                  refine wpAnyH_take (i := 8) (v := ?v46) rfl (by kernel_rfl) (by kernel_rfl) (by kernel_rfl) (fun _ _ _ h => h) (Or.inl ⟨by kernel_rfl, ?y46⟩) (by assumption) ?r46
                  case y46 => (intro w' hSw; (try dsimp only at hSw); go_simp; (try with_reducible rfl))
                  try simp only [Act.put, List.setIfInBounds_toArray, List.set_cons_zero, List.set_cons_succ, List.getElem_toArray, List.getElem_cons_succ, List.getElem_cons_zero]
                  refine wpAnyH_take (i := 9) (v := ?v47) rfl (by kernel_rfl) (by kernel_rfl) (by kernel_rfl) (fun _ _ _ h => h) (Or.inl ⟨by kernel_rfl, ?y47⟩) (by assumption) ?r47
                  case y47 => (intro w' hSw; (try dsimp only at hSw); go_simp; (try with_reducible rfl))
                  try simp only [Act.put, List.setIfInBounds_toArray, List.set_cons_zero, List.set_cons_succ, List.getElem_toArray, List.getElem_cons_succ, List.getElem_cons_zero]
                  refine wpAnyH_take (i := 10) (v := ?v48) rfl (by kernel_rfl) (by kernel_rfl) (by kernel_rfl) (fun _ _ _ h => h) (Or.inl ⟨by kernel_rfl, ?y48⟩) (by assumption) ?r48
                  case y48 => (intro w' hSw; (try dsimp only at hSw); go_simp; (try with_reducible rfl))
                  try simp only [Act.put, List.setIfInBounds_toArray, List.set_cons_zero, List.set_cons_succ, List.getElem_toArray, List.getElem_cons_succ, List.getElem_cons_zero]
                  refine wpAnyH_take (i := 11) (v := undef) rfl (by kernel_rfl) (by kernel_rfl) (by kernel_rfl) (fun _ _ _ h => h) (Or.inr ⟨by kernel_rfl, rfl⟩) (by assumption) ?_
                  try simp only [Act.put, List.setIfInBounds_toArray, List.set_cons_zero, List.set_cons_succ, List.getElem_toArray, List.getElem_cons_succ, List.getElem_cons_zero]
                  refine wpAnyH_take (i := 12) (v := undef) rfl (by kernel_rfl) (by kernel_rfl) (by kernel_rfl) (fun _ _ _ h => h) (Or.inr ⟨by kernel_rfl, rfl⟩) (by assumption) ?_
                  try simp only [Act.put, List.setIfInBounds_toArray, List.set_cons_zero, List.set_cons_succ, List.getElem_toArray, List.getElem_cons_succ, List.getElem_cons_zero]
                  refine wpAnyH_take (i := 13) (v := undef) rfl (by kernel_rfl) (by kernel_rfl) (by kernel_rfl) (fun _ _ _ h => h) (Or.inr ⟨by kernel_rfl, rfl⟩) (by assumption) ?_
                  try simp only [Act.put, List.setIfInBounds_toArray, List.set_cons_zero, List.set_cons_succ, List.getElem_toArray, List.getElem_cons_succ, List.getElem_cons_zero]
                  refine wpAnyH_take (i := 14) (v := undef) rfl (by kernel_rfl) (by kernel_rfl) (by kernel_rfl) (fun _ _ _ h => h) (Or.inr ⟨by kernel_rfl, rfl⟩) (by assumption) ?_
                  try simp only [Act.put, List.setIfInBounds_toArray, List.set_cons_zero, List.set_cons_succ, List.getElem_toArray, List.getElem_cons_succ, List.getElem_cons_zero]
                  refine wpAnyH_take (i := 15) (v := undef) rfl (by kernel_rfl) (by kernel_rfl) (by kernel_rfl) (fun _ _ _ h => h) (Or.inr ⟨by kernel_rfl, rfl⟩) (by assumption) ?_
                  try simp only [Act.put, List.setIfInBounds_toArray, List.set_cons_zero, List.set_cons_succ, List.getElem_toArray, List.getElem_cons_succ, List.getElem_cons_zero]
                  refine wpAnyH_take (i := 16) (v := undef) rfl (by kernel_rfl) (by kernel_rfl) (by kernel_rfl) (fun _ _ _ h => h) (Or.inr ⟨by kernel_rfl, rfl⟩) (by assumption) ?_
                  try simp only [Act.put, List.setIfInBounds_toArray, List.set_cons_zero, List.set_cons_succ, List.getElem_toArray, List.getElem_cons_succ, List.getElem_cons_zero]
                  refine wpAnyH_take (i := 17) (v := undef) rfl (by kernel_rfl) (by kernel_rfl) (by kernel_rfl) (fun _ _ _ h => h) (Or.inr ⟨by kernel_rfl, rfl⟩) (by assumption) ?_
                  try simp only [Act.put, List.setIfInBounds_toArray, List.set_cons_zero, List.set_cons_succ, List.getElem_toArray, List.getElem_cons_succ, List.getElem_cons_zero]
                  refine wpAnyH_take (i := 18) (v := undef) rfl (by kernel_rfl) (by kernel_rfl) (by kernel_rfl) (fun _ _ _ h => h) (Or.inr ⟨by kernel_rfl, rfl⟩) (by assumption) ?_
                  try simp only [Act.put, List.setIfInBounds_toArray, List.set_cons_zero, List.set_cons_succ, List.getElem_toArray, List.getElem_cons_succ, List.getElem_cons_zero]
                  refine wpAnyH_take (i := 19) (v := undef) rfl (by kernel_rfl) (by kernel_rfl) (by kernel_rfl) (fun _ _ _ h => h) (Or.inr ⟨by kernel_rfl, rfl⟩) (by assumption) ?_
                  try simp only [Act.put, List.setIfInBounds_toArray, List.set_cons_zero, List.set_cons_succ, List.getElem_toArray, List.getElem_cons_succ, List.getElem_cons_zero]
                  refine wpAnyH_take (i := 20) (v := undef) rfl (by kernel_rfl) (by kernel_rfl) (by kernel_rfl) (fun _ _ _ h => h) (Or.inr ⟨by kernel_rfl, rfl⟩) (by assumption) ?_
                  try simp only [Act.put, List.setIfInBounds_toArray, List.set_cons_zero, List.set_cons_succ, List.getElem_toArray, List.getElem_cons_succ, List.getElem_cons_zero]
                  refine wpAnyH_take (i := 21) (v := undef) rfl (by kernel_rfl) (by kernel_rfl) (by kernel_rfl) (fun _ _ _ h => h) (Or.inr ⟨by kernel_rfl, rfl⟩) (by assumption) ?_
                  try simp only [Act.put, List.setIfInBounds_toArray, List.set_cons_zero, List.set_cons_succ, List.getElem_toArray, List.getElem_cons_succ, List.getElem_cons_zero]
                  refine wpAnyH_take (i := 22) (v := undef) rfl (by kernel_rfl) (by kernel_rfl) (by kernel_rfl) (fun _ _ _ h => h) (Or.inr ⟨by kernel_rfl, rfl⟩) (by assumption) ?_
                  try simp only [Act.put, List.setIfInBounds_toArray, List.set_cons_zero, List.set_cons_succ, List.getElem_toArray, List.getElem_cons_succ, List.getElem_cons_zero]
                  refine wpAnyH_take (i := 23) (v := undef) rfl (by kernel_rfl) (by kernel_rfl) (by kernel_rfl) (fun _ _ _ h => h) (Or.inr ⟨by kernel_rfl, rfl⟩) (by assumption) ?_
                  try simp only [Act.put, List.setIfInBounds_toArray, List.set_cons_zero, List.set_cons_succ, List.getElem_toArray, List.getElem_cons_succ, List.getElem_cons_zero]
                  refine wpAnyH_take (i := 24) (v := undef) rfl (by kernel_rfl) (by kernel_rfl) (by kernel_rfl) (fun _ _ _ h => h) (Or.inr ⟨by kernel_rfl, rfl⟩) (by assumption) ?_
                  try simp only [Act.put, List.setIfInBounds_toArray, List.set_cons_zero, List.set_cons_succ, List.getElem_toArray, List.getElem_cons_succ, List.getElem_cons_zero]
                  refine wpAnyH_take (i := 25) (v := ?v49) rfl (by kernel_rfl) (by kernel_rfl) (by kernel_rfl) (fun _ _ _ h => h) (Or.inl ⟨by kernel_rfl, ?y49⟩) (by assumption) ?r49
                  case y49 => (intro w' hSw; (try dsimp only at hSw); go_simp; (try with_reducible rfl))
                  try simp only [Act.put, List.setIfInBounds_toArray, List.set_cons_zero, List.set_cons_succ, List.getElem_toArray, List.getElem_cons_succ, List.getElem_cons_zero]
                  refine wpAnyH_done (by kernel_rfl) (NoPanic.normal ?_) _
                  go_wp2_with fail
                  go_meet
                  exact ⟨by rw [hstt.out]; rfl, hB.trans ((HW1.out.trans (B1.mono HW1.out.size)).mono hbz)⟩
            case rest =>
            obtain ⟨rfl, B1⟩ := hcut
            clear g0 g1 g2 g3 g4 g5 g6 g7 g8 x0 x1 x2 x3 x4 x5 t0 t1 hcI HX hst
            cases hbad : stepT nx rs (k + 1) with
            | true =>
              have hnx : Hid (∀ j, j < k + 1 + 1 → stepT nx rs j = true) := by
                intro j hj
                rcases (show j < k + 1 ∨ j = k + 1 by omega) with hj | rfl
                · exact hall.out j hj
                · exact hbad
              clear hall
              go_wp2
              go_roundw
              all_goals first
                | (case rel => exact ⟨k + 1 + 1, by omega, by go_num, hnx, B1⟩)
                | (case rel => (repeat apply Exists.intro); exact ⟨⟨k + 1 + 1, by omega, by go_num, hnx, B1⟩, rfl⟩)
                | (case measure => simp [intOf]; omega)
            | false =>
              have hRf : Hid (false = R) := by show _ = _; rw [HR.out, show (List.range n).all (stepT nx rs) = false from all_range_false (show k + 1 < n by omega) hbad]; simp
              clear hall
              go_wp2
              go_ret
              exact ⟨ret_bool hRf.out, B0.trans (B1.mono hws)⟩
        · have hki : ¬ (k' : Int) < (n : Int) := by omega
          obtain rfl : k' = n := by omega
          have hRR : Hid (R = (decide ((rs.getD 0 inoZ).D.ino = 1) && decide ((rs.getD 0 inoZ).D.kind = 2))) := by show _ = _; rw [HR.out, show (List.range k').all (stepT nx rs) = true from all_range_true hall.out, Bool.true_and]
          obtain ⟨r, hrk⟩ : ∃ r, rs[0]? = some r := ⟨_, List.getElem?_eq_getElem (by rw [hn'.out]; omega)⟩
          obtain ⟨b, off, rfl, hlt, hc⟩ := (HCL.out wr hB).lt (by intro h; have := hn'.out; rw [h] at this; simp at this; omega)
          obtain ⟨x0, x1, _⟩ := (hc 0 r hrk).1
          simp only [Nat.zero_mul, Nat.add_zero] at x0 x1
          rw [show rs.getD 0 inoZ = r by simp [List.getD_eq_getElem?_getD, hrk]] at hRR
          obtain ⟨t0, t1⟩ : wr.cell? ⟨w.heap.size, 0, none⟩ = some (.slice (some ⟨b, off, none⟩) k' cap) ∧ wr.cell? ⟨w.heap.size, 1, none⟩ = some (.int .i64 nx) := ⟨(z0.keep hB).cell 0, (z0.keep hB).cell 1⟩
          have hk1 : (0 : Int) < (k' : Int) := by omega
          generalize r.D.ino = i1 at x0 hRR
          generalize r.D.kind = i2 at x1 hRR
          clear hc hrk hall
          by_cases h1 : i1 = 1
          · have h1b : (i1 == 1) = true := by simp [h1]
            by_cases h2 : i2 = 2
            · have h2b : (i2 == 2) = true := by simp [h2]
              have hRt : Hid (true = R) := by show _ = _; rw [hRR.out, decide_eq_true h1, decide_eq_true h2]; rfl
              go_wp2
              go_ret
              exact ⟨ret_bool hRt.out, B0.trans (hB.mono hws)⟩
            · have h2b : (i2 == 2) = false := by simp [h2]
              have hRt : Hid (false = R) := by show _ = _; rw [hRR.out, decide_eq_false h2, Bool.and_false]
              go_wp2
              go_ret
              exact ⟨ret_bool hRt.out, B0.trans (hB.mono hws)⟩
          · have h1b : (i1 == 1) = false := by simp [h1]
            have hRt : Hid (false = R) := by show _ = _; rw [hRR.out, decide_eq_false h1, Bool.false_and]
            go_wp2
            go_ret
            exact ⟨ret_bool hRt.out, B0.trans (hB.mono hws)⟩
end Go.Proofs.YtfjlemnohjnkhaaGreat
