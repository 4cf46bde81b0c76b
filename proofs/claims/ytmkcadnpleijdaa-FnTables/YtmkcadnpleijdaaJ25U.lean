/-
  Joined: DrawI, FnI.
-/
import Derived.Test.YtmkcadnpleijdaaJ24U
import Derived.Test.YtmkcadnpleijdaaJ06U
import Derived.Laws.StructEq
import Derived.Laws.BytesString
import Derived.Deep.CutBlock
import Derived.Deep.RegionLaw
import Derived.Deep.OwnRows
namespace Go.Proofs.Ytmkcadnpleijdaa
section
open Go.RowKit
theorem Src.own {w w' : World} {gc n cap : Nat} {a : Option Addr} {zs : List Int} {r : Option Nat} (h : Src w gc n cap a zs) (hg : w.grownBy w' r) (hr : ∀ g, r = some g → gc < g) : Src w' gc n cap a zs := by
  cases r with
  | none => exact h.keep ⟨hg.os, hg.tape, hg.output, hg.size, fun k hk => hg.block k hk (by simp)⟩
  | some g => exact h.other hg (hr g rfl)
section
variable {w W W' : World} {gc sn scap : Nat} {sa : Option Addr} {zs : List Int} {X N : Nat} {nm xs : Array Value} {v1 : Value} {dz : List Int} {v2 : Value} {es : List (ByteArray × Int)} {v3 : Value} {ats : List (ByteArray × ByteArray)}
end
/-! ### when what was drawn is right -/
end

section
open Go.RowKit
set_option maxHeartbeats 400000 in
theorem big_any (a : Option Addr) (n cap : Nat) (w : World) : Calls Try.prog 7 #[.slice a n cap] w fun e w' => e = .returned (.bool (decide ((1048576 : Int) < (n : Int)))) ∧ w' = w := by
  go_enter Try.func7, Try.ntmps7
  go_wp2
  go_ret
  exact ⟨rfl, rfl⟩
theorem Own.cap' {w : World} {g n c : Nat} {zs : List Int} (h : Own w g n c zs) : n ≤ c := by
  rcases h.2 with ⟨h', _⟩ | ⟨g', c', cur, h', _, _, h5, _⟩
  · simp at h'
  · simp at h'
    omega
theorem Own.rd' {w : World} {g n c : Nat} {zs : List Int} (h : Own w g n c zs) : Rd w (some ⟨g, 0, none⟩) zs := by
  obtain ⟨b, d, e, hr⟩ := (OwnV.rowB (B := 0) h).form
  simp at e
  rw [e.1]
  exact hr
theorem encGo_byt' (f m : Nat) (h : m < 128 ^ (f + 1)) : Byt (encGo f m) := by
  induction f generalizing m with
  | zero =>
    intro z hz
    simp [encGo] at hz
    simp at h
    omega
  | succ f ih =>
    intro z hz
    by_cases hm : 128 ≤ m
    · rw [encGo_more hm] at hz
      rcases List.mem_cons.1 hz with rfl | hz
      · omega
      · exact ih (m / 128) (by rw [Nat.pow_succ] at h; omega) z hz
    · rw [encGo_last hm] at hz
      simp at hz
      omega
theorem enc_byt' (x : Int) : Byt (enc x) := encGo_byt' 3 _ (by have := clamp_le x; omega)
end
end Go.Proofs.Ytmkcadnpleijdaa
