/-
  Joined: UnlinkI, UnlinkT.
-/
import Derived.Test.YtmfimoccemgoiaaGreatDoorJ35R
namespace Go.Proofs.YtmfimoccemgoiaaGreatDoor
section
open Go.RowKit
/-- A table that was answered, as it is read. -/
theorem TabAt.read {w w' : World} {nx : Int} {ds : List InoD} {v : Value} (h : TabAt w nx ds v w') (hs : ∀ D ∈ ds, InoSmall D) (hl : ds.length ≤ 1048576) : ∃ a n c rs, v = .agg #[.slice a n c, .int .i64 nx] ∧ (∀ W : World, Below w'.heap.size w' W → TR W a n rs) ∧ rs.map InoR.D = ds ∧ Below w.heap.size w w' := by
  obtain ⟨a, n, c, rs, h1, h2, h3, h4⟩ := h.tr hs hl
  exact ⟨a, n, c, rs, h1, fun W hW => h2.keep hW, h3, h4⟩
/-- A table that was answered can be read behind a store into an elder block. -/
theorem TabAt.setX {w w' W : World} {nx : Int} {ds : List InoD} {a : Option Addr} {n c X j : Nat} {u : Value} {rs : List InoR} (h : TabAt w nx ds (.agg #[.slice a n c, .int .i64 nx]) w') (hs : ∀ D ∈ ds, InoSmall D) (hl : ds.length ≤ 1048576) (_ : rs.map InoR.D = ds) (hb : Below w'.heap.size w' W) (hX : X < w.heap.size) : ∃ rs', TR (W.setCell ⟨X, j, none⟩ u) a n rs' ∧ rs'.map InoR.D = ds := by
  obtain ⟨a', c', js, hv, hq, _⟩ := h
  have h1 : (js.map InoJ.r).map InoR.D = ds := by rw [hq.ds, lift_map]
  have h2 : js.length = ds.length := by rw [← h1]; simp
  cases hv
  exact ⟨js.map InoJ.r, ⟨by simp, by omega, fun r hr => hs r.D (by rw [← h1]; exact List.mem_map_of_mem hr), ((hq.keep hb).setX hX j u).rd rfl⟩, h1⟩
end

section
open Go.RowKit
theorem good_dropLast {zs : List Str} (h : good zs = true) : good zs.dropLast = true := good_prefix h (List.dropLast_prefix zs)
theorem parent_size (s : ByteArray) : (strB (parentOf s.data.toList).1).size ≤ s.size := by
  have e : ∀ l : Str, (strB l).size = l.length := fun l => by show (l.toArray).size = _; simp
  rw [e]
  have hl : s.size = s.data.toList.length := by show s.data.size = _; simp
  rw [hl]
  cases hs : splitOf s.data.toList with
  | none => unfold parentOf; rw [hs]; simp
  | some zs =>
    unfold parentOf
    rw [hs]
    dsimp only
    by_cases hne : zs = []
    · rw [if_pos hne]
      simp
    · rw [if_neg hne]
      dsimp only
      have hj := join_split hs
      rw [← hj]
      have hg : good zs = true := by
        rcases split_cases hs with ⟨_, rfl⟩ | ⟨r, _, _, hg, rfl⟩
        · exact absurd rfl hne
        · exact hg
      have e2 : zs = zs.dropLast ++ [zs.getLast hne] := (List.dropLast_concat_getLast hne).symm
      have e3 : joinOf zs = zs.flatMap (fun p => 47 :: p) := by unfold joinOf; rw [if_neg hne, if_pos hg]
      rw [e3]
      unfold joinOf
      by_cases hd : zs.dropLast = []
      · rw [if_pos hd]
        rw [e2, hd]
        simp
      · rw [if_neg hd, if_pos (good_dropLast hg)]
        conv => rhs; rw [e2, List.flatMap_append]
        simp
theorem tree_more {nx : Int} {ds : List InoD} (h : treeD nx ds = true) : (∀ D ∈ ds, D.ents.length ≤ 100) ∧ (∀ D ∈ ds, 0 ≤ D.links ∧ D.links ≤ 1000) ∧ ds.length ≤ 30 := by
  have h1 := tabD_ok (treeD_parts h).1
  refine ⟨fun D hD => ?_, fun D hD => ?_, h1.2.1⟩
  · have := (entsOk_at (ok_parts (h1.2.2.2.2.1 D hD).1).2.2.1).1
    omega
  · have h2 := (h1.2.2.2.2.1 D hD).1
    unfold inoOk at h2
    simp only [Bool.and_eq_true, decide_eq_true_eq] at h2
    exact h2.1.1.1.1.1.2
end
end Go.Proofs.YtmfimoccemgoiaaGreatDoor
