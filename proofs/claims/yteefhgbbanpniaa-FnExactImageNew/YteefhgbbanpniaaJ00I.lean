/-
  Joined: Base, Name.
-/
import Derived.Test.YteefhgbbanpniaaRows
import Derived.WalkKit
import Derived.WalkSpells
import Derived.WalkLawsBesides
import Derived.Deep.QuietTactic
import Derived.BigQuiet
import Derived.OpenShut
import Derived.Lib.Strings
namespace Go.Proofs.Yteefhgbbanpniaa
section
open Go.RowKit
/-- The bytes zs can be read from the address a on. -/
def Rd (w : World) (a : Option Addr) (zs : List Int) : Prop :=
  zs = [] ∨ ∃ b off, a = some ⟨b, off, none⟩ ∧ ∀ i, i < zs.length → w.cell? ⟨b, off + i, none⟩ = some (.int .u8 (zs.getD i 0))
def Byt (zs : List Int) : Prop := ∀ z ∈ zs, 0 ≤ z ∧ z ≤ 255
theorem Rd.lt {w : World} {a : Option Addr} {zs : List Int} (h : Rd w a zs) (hz : zs ≠ []) : ∃ b off, a = some ⟨b, off, none⟩ ∧ b < w.heap.size ∧ ∀ i, i < zs.length → w.cell? ⟨b, off + i, none⟩ = some (.int .u8 (zs.getD i 0)) := by
  rcases h with h | ⟨b, off, rfl, hc⟩
  · exact absurd h hz
  · refine ⟨b, off, rfl, ?_, hc⟩
    have := hc 0 (List.length_pos_iff.2 hz)
    exact World.block_lt_of_cell? w _ this
theorem Rd.keep {w w' : World} {a : Option Addr} {zs : List Int} (h : Rd w a zs) (hb : Below w.heap.size w w') : Rd w' a zs := by
  by_cases hz : zs = []
  · exact .inl hz
  · obtain ⟨b, off, rfl, hlt, hc⟩ := h.lt hz
    refine .inr ⟨b, off, rfl, fun i hi => ?_⟩
    rw [hb.cell (p := ⟨b, off + i, none⟩) hlt]
    exact hc i hi
set_option maxHeartbeats 400000 in
theorem eqByteS_same (a a' : Option Addr) (n cap cap' : Nat) (zs : List Int) (w : World) (hn : zs.length = n) (hs : n ≤ 4000000) (hr : Rd w a zs) (hr' : Rd w a' zs) :
    Calls Try.prog 45 #[.slice a n cap, .slice a' n cap'] w fun e w' => e = .returned (.bool true) ∧ ∃ d, w' = w.drewN d := by
  by_cases h0 : n = 0
  · subst h0
    go_enter Try.func45, Try.ntmps45
    go_wp2
    refine wp_loop_rounds 1 ?_; rw [rounds_succ]
    go_wp2
    go_ret
    exact ⟨rfl, 0, rfl⟩
  · obtain ⟨b, off, rfl, hlt, hc⟩ := hr.lt (by intro h; subst h; simp at hn; omega)
    obtain ⟨b', off', rfl, hlt', hc'⟩ := hr'.lt (by intro h; subst h; simp at hn; omega)
    clear hr hr'
    have hn' : Hid (zs.length = n) := hn
    clear hn
    go_enter Try.func45, Try.ntmps45
    go_wp2
    go_loopw [5] (fun i wr => ∃ k d : Nat, k ≤ n ∧ i = .int .i64 k ∧ wr = w.drewN d) (fun i _ => n - (intOf i).toNat)
    case atStart => exact ⟨0, 0, Nat.zero_le _, rfl, rfl⟩
    case round =>
      obtain ⟨k, d, hk, rfl, rfl⟩ := hrel
      by_cases hkn : k < n
      · have hcx := hc k (by rw [hn'.out]; exact hkn)
        have hcy := hc' k (by rw [hn'.out]; exact hkn)
        have hki : (k : Int) < (n : Int) := by omega
        go_wp2
        go_quiet (fail)
        go_wp2
        go_roundw
        case rel => exact ⟨k + 1, d + nq, by omega, by go_num, rfl⟩
        case measure => simp [intOf]; omega
      · go_wp2
        go_ret
        exact ⟨rfl, d, rfl⟩
theorem eqByteS_true (a a' : Option Addr) (n cap cap' : Nat) (zs : List Int) (w : World) (hn : zs.length = n) (hs : n ≤ 4000000) (hr : Rd w a zs) (hr' : Rd w a' zs) :
    Calls Try.prog 45 #[.slice a n cap, .slice a' n cap'] w fun e w' => e = .returned (.bool true) ∧ Below w.heap.size w w' :=
  (eqByteS_same a a' n cap cap' zs w hn hs hr hr').mono fun _ _ ⟨h, d, hd⟩ => ⟨h, by subst hd; exact below_drewN (Below.refl _ _) d⟩
end

section
open Go.RowKit
/-- The k-th byte of a text. -/
def byt (s : ByteArray) (k : Nat) : UInt8 := s.data.toList.getD k 0
end
end Go.Proofs.Yteefhgbbanpniaa
