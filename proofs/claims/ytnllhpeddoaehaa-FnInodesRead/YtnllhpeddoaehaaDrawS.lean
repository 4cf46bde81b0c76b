/-
  Draws of a text out of a list, and of one out of so many.
-/
import Derived.Test.YtnllhpeddoaehaaDraw
namespace Go.Proofs.Ytnllhpeddoaehaa
open Go.RowKit

theorem strs_cells (w : World) (vs : List ByteArray) : ∀ j, j < vs.length → (w.alloc (.cells (vs.map Value.string).toArray 9)).cell? ⟨w.heap.size, j, none⟩ = some (.string (vs.getD j ⟨#[]⟩)) := by
  intro j hj
  rw [cell_of_row _ w.heap.size j _ 9 (0, 0) (heap_alloc_new w _)]
  simp [hj]

set_option maxHeartbeats 800000 in
theorem str_step (gc n cap : Nat) (a : Option Addr) (zs : List Int) (gl L : Nat) (vs : List ByteArray) (w : World) (h : Src w gc n cap a zs) (hL : vs.length = L) (hL1 : 1 ≤ L) (hL2 : L ≤ 256) (hne : gl ≠ gc)
    (hv : ∀ j, j < L → w.cell? ⟨gl, j, none⟩ = some (.string (vs.getD j ⟨#[]⟩))) (hsz : ∀ v ∈ vs, v.size ≤ 16) :
    Calls Try.prog 105 #[.pointer (some ⟨gc, 0, none⟩), .slice (some ⟨gl, 0, none⟩) L L] w fun e w' => ∃ z : ByteArray, e = .returned (.string z) ∧ z.size ≤ 16 ∧ Src w' gc n cap a zs ∧ w.grownBy w' (some gc) := by
  have hL' : Hid (vs.length = L) := hL
  clear hL
  go_enter Try.func105, Try.ntmps105
  go_wp2_with fail
  refine (below_step gc n cap a zs L w h hL1 (by omega)).mono ?_
  rintro e w1 ⟨x, rfl, hx, hs1, hg1⟩
  have hcx := hg1.cell (hv x hx) (by simpa using hne)
  have hxl : x < vs.length := by rw [hL'.out]; exact hx
  have hz : (vs.getD x ⟨#[]⟩).size ≤ 16 := by
    have e : vs.getD x ⟨#[]⟩ = vs[x] := by simp [hxl]
    rw [e]; exact hsz _ (List.getElem_mem hxl)
  obtain ⟨z, hzz⟩ : ∃ z, vs.getD x ⟨#[]⟩ = z := ⟨_, rfl⟩
  rw [hzz] at hcx hz
  clear hzz hxl
  have hx1 : (x : Int) < (L : Int) := by omega
  go_wp2
  go_ret
  exact ⟨z, rfl, hz, hs1, hg1⟩

set_option maxHeartbeats 400000 in
theorem once_step (gc n cap : Nat) (a : Option Addr) (zs : List Int) (m : Nat) (w : World) (h : Src w gc n cap a zs) (hm : 1 ≤ m) (hm2 : m ≤ 10000000) :
    Calls Try.prog 73 #[.pointer (some ⟨gc, 0, none⟩), .int .i64 m] w fun e w' => ∃ B : Bool, e = .returned (.bool B) ∧ Src w' gc n cap a zs ∧ w.grownBy w' (some gc) := by
  go_enter Try.func73, Try.ntmps73
  go_wp2_with fail
  refine (below_step gc n cap a zs m w h hm hm2).mono ?_
  rintro e w1 ⟨x, rfl, hx, hs1, hg1⟩
  go_wp2
  go_ret
  exact ⟨_, rfl, hs1, hg1⟩
end Go.Proofs.Ytnllhpeddoaehaa
