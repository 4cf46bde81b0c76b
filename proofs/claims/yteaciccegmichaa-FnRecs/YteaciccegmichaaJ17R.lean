/-
  Joined: ImplGet, FnI.
-/
import Derived.Test.YteaciccegmichaaJ16R
import Derived.Test.YteaciccegmichaaJ12R
import Derived.Deep.RegionLaw
import Derived.Deep.OwnRows
namespace Go.Proofs.Yteaciccegmichaa
section
open Go.RowKit
theorem below_but {B : Nat} {w0 W W' : World} {r1 r2 : Nat} (h : Below B w0 W) (g : But W W' (some r1) (some r2) none) (hB : B ≤ w0.heap.size) (h1 : B ≤ r1) (h2 : B ≤ r2) : Below B w0 W' := by
  have hs := h.size
  refine ⟨by rw [g.os, h.os], by rw [g.tape, h.tape], by rw [g.output, h.output], Nat.le_trans h.size g.size, fun k hk => ?_⟩
  rw [g.block k (by omega) (by simp; omega) (by simp; omega) (by simp)]
  exact h.block k hk
theorem RI.keep {W W' : World} {H : Nat} {a : Option Addr} {n cap : Nat} {st : Option Nat} (h : RI W H a n cap st) (hb : Below W.heap.size W W') : RI W' H a n cap st := h.kp (KpT.below hb [22, 3, 4]) (by decide) (by decide) (by decide)
end

section
open Go.RowKit
set_option maxHeartbeats 400000 in
theorem big_any (a : Option Addr) (n cap : Nat) (w : World) : Calls Try.prog 6 #[.slice a n cap] w fun e w' => e = .returned (.bool (decide ((1048576 : Int) < (n : Int)))) ∧ w' = w := by
  go_enter Try.func6, Try.ntmps6
  go_wp2
  go_ret
  exact ⟨rfl, rfl⟩
theorem Own.cap' {w : World} {g n c : Nat} {zs : List Int} (h : Own w g n c zs) : n ≤ c := by
  rcases h.2 with ⟨h', _⟩ | ⟨g', c', cur, h', _, _, h5, _⟩
  · simp at h'
  · simp at h'
    omega
theorem encGo_byt' (f m : Nat) (h : m < 128 ^ (f + 1)) : Byt (encGo f m) := by
  induction f generalizing m with
  | zero =>
    intro z hz
    simp [encGo] at hz
    simp at h
    omega
  | succ f ih =>
    intro z hz
    by_cases hm : 128 ≤ m
    · rw [encGo_more hm] at hz
      rcases List.mem_cons.1 hz with rfl | hz
      · omega
      · exact ih (m / 128) (by rw [Nat.pow_succ] at h; omega) z hz
    · rw [encGo_last hm] at hz
      simp at hz
      omega
theorem enc_byt' (x : Int) : Byt (enc x) := encGo_byt' 3 _ (by have := clamp_le x; omega)
theorem byt_app {a b : List Int} (ha : Byt a) (hb : Byt b) : Byt (a ++ b) := by
  intro z hz
  rcases List.mem_append.1 hz with hz | hz
  · exact ha z hz
  · exact hb z hz
theorem encT_byt (s : ByteArray) : Byt (encT s) := byt_app (enc_byt' _) (strZ_byt' s)
end
end Go.Proofs.Yteaciccegmichaa
