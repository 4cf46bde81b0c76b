/-
  Draws of a text out of a list, and of one out of so many.
-/
import Derived.Test.YtmkcadnpleijdaaJ29U
import Derived.Test.YtmkcadnpleijdaaJ30U
import Derived.WalkKit
import Derived.WalkSpells
import Derived.WalkLawsBesides
import Derived.Deep.QuietTactic
import Derived.BigQuiet
import Derived.OpenShut
import Derived.Laws.BitsAllLaws
import Derived.Maps.AppendAt
import Derived.Lib.SliceRun
import Derived.Laws.BitsLemmas
namespace Go.Proofs.Ytmkcadnpleijdaa
open Go.RowKit
set_option maxHeartbeats 800000 in
theorem str_step (gc n cap : Nat) (a : Option Addr) (zs : List Int) (gl L : Nat) (vs : List ByteArray) (w : World) (h : Src w gc n cap a zs) (hL : vs.length = L) (hL1 : 1 ≤ L) (hL2 : L ≤ 256) (hne : gl ≠ gc)
    (hv : ∀ j, j < L → w.cell? ⟨gl, j, none⟩ = some (.string (vs.getD j ⟨#[]⟩))) (hsz : ∀ v ∈ vs, v.size ≤ 16) :
    Calls Try.prog 52 #[.pointer (some ⟨gc, 0, none⟩), .slice (some ⟨gl, 0, none⟩) L L] w fun e w' => ∃ z : ByteArray, e = .returned (.string z) ∧ z.size ≤ 16 ∧ Src w' gc n cap a zs ∧ w.grownBy w' (some gc) := by
  have hL' : Hid (vs.length = L) := hL
  clear hL
  go_enter Try.func52, Try.ntmps52
  go_wp2_with fail
  refine (below_step gc n cap a zs L w h hL1 (by omega)).mono ?_
  rintro e w1 ⟨x, rfl, hx, hs1, hg1⟩
  have hcx := hg1.cell (hv x hx) (by simpa using hne)
  have hxl : x < vs.length := by rw [hL'.out]; exact hx
  have hz : (vs.getD x ⟨#[]⟩).size ≤ 16 := by
    have e : vs.getD x ⟨#[]⟩ = vs[x] := by simp [hxl]
    rw [e]; exact hsz _ (List.getElem_mem hxl)
  obtain ⟨z, hzz⟩ : ∃ z, vs.getD x ⟨#[]⟩ = z := ⟨_, rfl⟩
  rw [hzz] at hcx hz
  clear hzz hxl
  have hx1 : (x : Int) < (L : Int) := by omega
  go_wp2
  go_ret
  exact ⟨z, rfl, hz, hs1, hg1⟩
end Go.Proofs.Ytmkcadnpleijdaa


