/-
  Contracts for markByteS and heldByteS of the laws, over a row of the call's own.
-/
import Derived.Test.YtnllhpeddoaehaaPut
namespace Go.Proofs.Ytnllhpeddoaehaa
open Go.RowKit

theorem encGo_len (f m : Nat) : (encGo f m).length ≤ f + 1 := by
  induction f generalizing m with
  | zero => simp [encGo]
  | succ f ih =>
    unfold encGo
    split
    · have := ih (m / 128); simp only [List.length_cons]; omega
    · simp
theorem enc_len (x : Int) : (enc x).length ≤ 4 := encGo_len 3 _

/-- The bytes behind k rounds of marking. -/
def mks (zs : List Int) (k : Nat) : List Int := (List.range k).map (fun i : Nat => ((i : Int) + 1) % 256) ++ zs.drop k

theorem mks_zero (zs : List Int) : mks zs 0 = zs := by simp [mks]
theorem mks_set (zs : List Int) (k : Nat) (h : k < zs.length) : (mks zs k).set k (((k : Int) + 1) % 256) = mks zs (k + 1) := by
  unfold mks
  rw [List.set_append_right _ _ (by simp)]
  have e : k - ((List.range k).map (fun i : Nat => ((i : Int) + 1) % 256)).length = 0 := by simp
  rw [e, List.drop_eq_getElem_cons h, List.set_cons_zero, List.range_succ, List.map_append, List.append_assoc]
  rfl
/-- What a row of n cells holds when it is marked from 1 on. -/
def marks (n : Nat) : List Int := (List.range n).map (fun i : Nat => ((i : Int) + 1) % 256)
theorem mks_all (zs : List Int) : mks zs zs.length = marks zs.length := by simp [mks, marks]
theorem marks_at (n k : Nat) (h : k < n) : (marks n).getD k 0 = ((k : Int) + 1) % 256 := by simp [marks, h]

theorem Own.kept {w w' : World} {g n c g2 : Nat} {zs : List Int} (h : Own w g n c zs) (hg : w.grownBy w' (some g2)) (hne : g ≠ g2) : Own w' g n c zs :=
  World.ownsRow.kept h hg (.inr (by simp [Value.ownBlock, hne]))

set_option maxHeartbeats 400000 in
theorem mark_any (g n c : Nat) (zs : List Int) (w : World) (hs : n ≤ 4000000) (hown : Own w g n c zs) :
    Calls Try.prog 35 #[.slice (some ⟨g, 0, none⟩) n c, .int .i64 1] w fun e w' => e = .returned (.int .i64 ((n : Int) + 1)) ∧ Own w' g n c (marks n) ∧ w.grownBy w' (some g) := by
  have hn' : Hid (zs.length = n) := hown.len
  go_enter Try.func35, Try.ntmps35
  go_wp2
  go_loopw [1, 5] (fun q i wr => ∃ k : Nat, k ≤ n ∧ i = .int .i64 k ∧ q = .int .i64 ((k : Int) + 1) ∧ Own wr g n c (mks zs k) ∧ w.grownBy wr (some g)) (fun _ i _ => n - (intOf i).toNat)
  case atStart => exact ⟨0, Nat.zero_le _, rfl, rfl, by rw [mks_zero]; exact hown, gr_refl w _⟩
  case round =>
    obtain ⟨k, hk, rfl, rfl, ho, hgr⟩ := hrel
    by_cases hkn : k < n
    · have hcy := World.ownsRow.cellAt ho k (by omega)
      have hfy := World.ownsRow.frozenAt ho k
      have hly : k < (mks zs k).length := by rw [ho.len]; exact hkn
      simp only [List.getElem?_map, List.getElem?_eq_getElem hly, Option.map_some] at hcy
      have hst := own_stored ho k (((k : Int) + 1) % 256)
      rw [mks_set zs k (by rw [hn'.out]; exact hkn)] at hst
      have hgr' : w.grownBy (wr.setCell ⟨g, k, none⟩ (.int .u8 (((k : Int) + 1) % 256))) (some g) := hgr.trans (World.ownsRow.stored ho k (.int .u8 (((k : Int) + 1) % 256))).2
      clear ho hgr
      go_wp2
      go_roundw
      case rel => exact ⟨k + 1, by omega, by go_num, by go_num, hst, hgr'⟩
      case measure => simp [intOf]; omega
    · go_wp2
      go_ret
      obtain rfl : k = n := by omega
      refine ⟨rfl, ?_, hgr⟩
      have := hn'.out
      rw [← this, mks_all, this] at ho
      exact ho

set_option maxHeartbeats 400000 in
theorem held_any (g n c : Nat) (w : World) (hs : n ≤ 4000000) (hown : Own w g n c (marks n)) :
    Calls Try.prog 90 #[.slice (some ⟨g, 0, none⟩) n c, .int .i64 1] w fun e w' => e = .returned (.int .i64 ((n : Int) + 1)) ∧ w' = w := by
  have hlen := hown.len
  have hn' : Hid ((marks n).length = n) := hlen
  clear hlen
  go_enter Try.func90, Try.ntmps90
  go_wp2
  go_loop [1, 5] (fun q i => ∃ k : Nat, k ≤ n ∧ i = .int .i64 k ∧ q = .int .i64 ((k : Int) + 1)) (fun _ i => n - (intOf i).toNat)
  case atStart => exact ⟨0, Nat.zero_le _, rfl, rfl⟩
  case round =>
    obtain ⟨k, hk, rfl, rfl⟩ := hrel
    by_cases hkn : k < n
    · have hcy := World.ownsRow.cellAt hown k (by omega)
      have hm := marks_at n k hkn
      have hly : k < (marks n).length := by rw [hn'.out]; exact hkn
      simp only [List.getElem?_map, List.getElem?_eq_getElem hly, Option.map_some] at hcy
      rw [List.getD_eq_getElem?_getD, List.getElem?_eq_getElem hly, Option.getD_some] at hm
      rw [hm] at hcy
      clear hm hly
      go_wp2
      go_round
      case rel => exact ⟨k + 1, by omega, by go_num, by go_num⟩
      case measure => simp [intOf]; omega
    · go_wp2
      go_ret
      obtain rfl : k = n := by omega
      exact ⟨rfl, rfl⟩
end Go.Proofs.Ytnllhpeddoaehaa
