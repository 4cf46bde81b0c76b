/-
  The iterator over what stands between the slashes of a text, for every loop body.
-/
import Derived.RangeFuncBox
import Derived.RangeFuncNested
import Derived.RangeFuncBound
import Derived.RangeFuncCalls
import Derived.RangeFuncLeaves
import Derived.Shelf.Abstract
import Derived.Shelf.RegionOpen
import Derived.OwnWalkIn
import Derived.TacticsInMore
import Derived.LoopNIn
import Derived.LoopIn
import Derived.Maps.AppendAt
import Derived.Test.YtgdloohafkanhaaCut
namespace Go.Proofs.Ytgdloohafkanhaa
open Go.RowKit Go.Shelf

attribute [local go_sem] Oper.semAt_some

/-- A text that comes out of another of at most so many bytes. -/
abbrev Piece := { b : ByteArray // b.size ≤ 4000000 }
def names (xs : List Piece) : List Str := xs.map fun x => x.1.data.toList
theorem names_snoc (xs : List Piece) (x : Piece) : names (xs ++ [x]) = names xs ++ [x.1.data.toList] := by simp [names]
theorem names_length (xs : List Piece) : (names xs).length = xs.length := by simp [names]

/-- What is still to come. -/
def restOf : Bool → Str → List Str
  | true, r => pieces r
  | false, _ => []

/-- How much is still to come. -/
def leftOf (r m : Value) : Nat := match r, m with
  | .string s, .bool true => s.size + 1
  | _, _ => 0

set_option maxRecDepth 100000 in
set_option maxHeartbeats 1000000 in
theorem names1 (n l Bn n₀ : Nat) (hn : 1 ≤ n) (s : ByteArray) (hs : s.size ≤ 4000000) (J Jx : List Piece → World → Prop) (hJd : ∀ pre W n, J pre W → J pre (W.drewN n))
    (hY : ∀ pre x W, J pre W → pre.length < (pieces s.data.toList).length → YieldAt Fence.wide (n - 1) Try.prog l #[.string x.1] W fun e W' =>
      (e = .returned (.bool true) ∧ J (pre ++ [x]) W' ∧ Below n₀ W W') ∨ (e = .returned (.bool false) ∧ Jx (pre ++ [x]) W'))
    (W : World) (hc : W.cell? ⟨Bn, 0, none⟩ = some (.string s)) (h0 : J [] W) :
    CallsIn Fence.wide n Try.prog 47 #[.func (.yield l) #[] #[], .pointer (some ⟨Bn, 0, none⟩)] W fun e W' => (∃ v, e = .returned v) ∧
      ((∃ ys, names ys = pieces s.data.toList ∧ J ys W') ∨ (∃ pre, names pre <+: pieces s.data.toList ∧ Jx pre W')) := by
  refine callsIn_of_wp Try.func47 rfl trivial ?_ rfl
  simp only [Try.ntmps47, List.size_toArray, List.length_cons, List.length_nil, Nat.reduceAdd, Nat.reduceSub, Array.replicate_succ, Array.replicate_zero, List.push_toArray, List.append_toArray, List.nil_append, List.cons_append]
  gi_wp2
  gi_loopw [3, 4] (fun p q wr => ∃ (pre : List Piece) (r : ByteArray) (m : Bool), p = .string r ∧ q = .bool m ∧ r.size ≤ s.size ∧ J pre wr ∧ Hid (pieces s.data.toList = names pre ++ restOf m r.data.toList))
    (fun p q _ => leftOf p q)
  case atStart => exact ⟨[], s, true, rfl, rfl, Nat.le_refl _, h0, rfl⟩
  case round =>
    obtain ⟨pre, r, m, rfl, rfl, hr, hJ, hp⟩ := hrel
    cases m with
    | false =>
      gi_wp2
      go_end0
      exact ⟨⟨_, rfl⟩, .inl ⟨pre, by rw [hp.out]; simp [restOf], hJ⟩⟩
    | true =>
      have hpl : pre.length < (pieces s.data.toList).length := by
        have h1 := congrArg List.length hp.out
        have h2 : 0 < (pieces r.data.toList).length := List.length_pos_iff.2 (pieces_ne _)
        simp only [restOf, List.length_append, names_length] at h1
        omega
      gi_wp2_with fail
      refine ⟨trivial, (callsIn_wide.2 (cut_any r wr (by omega))).mono ?_⟩
      rintro e w1 (⟨rfl, h47, d, rfl⟩ | ⟨b, a, rfl, hra, h47, d, rfl⟩)
      · -- no slash more: the last name
        have hpx : Hid (pieces s.data.toList = names (pre ++ [⟨r, by omega⟩])) := by
          show _ = _
          rw [hp.out, names_snoc]
          simp only [restOf]
          rw [pieces_miss _ h47]
        obtain ⟨fn, tmps, assign, body, hy, hR⟩ := hY pre ⟨r, by omega⟩ _ (hJd _ _ d hJ) hpl
        gi_wp2
        refine hR.mono ?_
        rintro e W3 (⟨rfl, hJ3, hk3⟩ | ⟨rfl, hJx3⟩)
        · gi_wp2
          go_roundw
          case rel => exact ⟨_, _, false, rfl, rfl, Nat.zero_le _, hJ3, show _ = _ by rw [hpx.out]; simp [restOf]⟩
          case measure => simp [leftOf]
        · gi_wp2
          refine bodyPost_ret (results_none rfl _ _ _) rfl ?_
          exact ⟨⟨_, rfl⟩, .inr ⟨_, by rw [hpx.out]; exact List.prefix_refl _, hJx3⟩⟩
      · -- a name, a slash and the rest
        have hlen : r.size = b.size + 1 + a.size := by
          have := congrArg List.length hra
          rw [List.length_append, List.length_cons, ← Lib.size_eq, ← Lib.size_eq, ← Lib.size_eq] at this
          omega
        have hpx : Hid (pieces s.data.toList = names (pre ++ [⟨b, by omega⟩]) ++ pieces a.data.toList) := by
          show _ = _
          rw [hp.out, names_snoc]
          simp only [restOf]
          rw [hra, pieces_hit _ _ h47, List.append_assoc]
          rfl
        obtain ⟨fn, tmps, assign, body, hy, hR⟩ := hY pre ⟨b, by omega⟩ _ (hJd _ _ d hJ) hpl
        gi_wp2
        refine hR.mono ?_
        rintro e W3 (⟨rfl, hJ3, hk3⟩ | ⟨rfl, hJx3⟩)
        · gi_wp2
          go_roundw
          case rel => exact ⟨_, _, true, rfl, rfl, by omega, hJ3, hpx⟩
          case measure => simp [leftOf]; omega
        · gi_wp2
          refine bodyPost_ret (results_none rfl _ _ _) rfl ?_
          exact ⟨⟨_, rfl⟩, .inr ⟨_, by rw [hpx.out]; exact List.prefix_append _ _, hJx3⟩⟩

set_option maxHeartbeats 1000000 in
theorem namesBetween_in (n : Nat) (s : ByteArray) (w : World) :
    CallsIn Fence.wide n Try.prog 38 #[.string s] w fun e w' => e = .returned (.func (.func 47) #[] #[.pointer (some ⟨w.heap.size, 0, none⟩)]) ∧ w' = w.alloc (.cells #[.string s] 9) := by
  refine callsIn_of_wp Try.func38 rfl trivial ?_ rfl
  simp only [Try.ntmps38, List.size_toArray, List.length_cons, List.length_nil, Nat.reduceAdd, Nat.reduceSub, Array.replicate_succ, Array.replicate_zero, List.push_toArray, List.append_toArray, List.nil_append, List.cons_append]
  gi_wp2
  go_ret
  exact ⟨rfl, rfl⟩

theorem names_stops (n Bn n₀ : Nat) (hn : 1 ≤ n) (s : ByteArray) (hs : s.size ≤ 4000000) (w : World) (hBn : Bn < w.heap.size) (hc : w.cell? ⟨Bn, 0, none⟩ = some (.string s)) :
    SeqStopsK Fence.wide n Try.prog 47 #[.pointer (some ⟨Bn, 0, none⟩)] (fun x : Piece => #[Value.string x.1]) (Below n₀) (fun ys => names ys = pieces s.data.toList) (fun pre => names pre <+: pieces s.data.toList) (pieces s.data.toList).length w := fun l J Jx W hW hJ _ hY h0 =>
  names1 n l Bn n₀ hn s hs J Jx (fun pre W' d h => hJ pre W' (W'.drewN d) none h ⟨rfl, rfl, rfl, Nat.le_refl _, fun _ _ _ => rfl⟩ (by intro r e; simp at e)) hY W ((hW.cell (p := ⟨Bn, 0, none⟩) hBn).trans hc) h0
end Go.Proofs.Ytgdloohafkanhaa
