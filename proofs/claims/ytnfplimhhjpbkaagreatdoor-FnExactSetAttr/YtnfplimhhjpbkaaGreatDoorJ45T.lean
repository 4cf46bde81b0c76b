/-
  Joined: Make6, Unlink6, Link6.
-/
import Derived.Test.YtnfplimhhjpbkaaGreatDoorJ38T
namespace Go.Proofs.YtnfplimhhjpbkaaGreatDoor
section
open Go.RowKit
theorem statD_mem {ds : List InoD} {s : ByteArray} {D : InoD} (h : statD ds s = (D, 0)) : D ∈ ds := by
  unfold statD at h
  split at h
  · split at h
    · simp at h
    · rename_i E hE
      simp at h
      exact h ▸ (look_mem hE).1
  · rename_i hn
    simp at h
    exact absurd h.2 hn
/-- SetInode, with what is told of tables here. -/
theorem setT (a : Option Addr) (n cap : Nat) (nx : Int) (rs : List InoR) (D : InoD) (a1 a2 a3 : Option Addr) (c1 c2 c3 : Nat) (w : World) (ht : TR w a n rs) (hsx : InoSmall D) (hx : InoRd w D a1 a2 a3) :
    Calls Tryz.prog 99 #[.agg #[.slice a n cap, .int .i64 nx], .agg #[.int .i64 D.ino, .int .i64 D.kind, .int .i64 D.links, .slice a1 D.data.length c1, .slice a2 D.ents.length c2, .slice a3 D.attrs.length c3]] w fun e w' => ∃ v, e = .returned v ∧ TabAt w nx (setD (rs.map InoR.D) D) v w' :=
  (setS a n cap nx rs D a1 a2 a3 c1 c2 c3 w ht.len ht.n ht.small hsx ht.rd hx).mono fun e w' h => by
    have := SetPost.tab h
    rw [setD_eq] at this
    exact this
theorem TR.smallD {w : World} {a : Option Addr} {n : Nat} {rs : List InoR} (h : TR w a n rs) : ∀ D ∈ rs.map InoR.D, InoSmall D := fun D hD => by
  obtain ⟨r, hr, rfl⟩ := List.mem_map.1 hD
  exact h.small r hr
end

section
open Go.RowKit
theorem fileD_mem {ds : List InoD} {s : ByteArray} {D : InoD} (h : fileD ds s = (D, 0)) : D ∈ ds ∧ statD ds s = (D, 0) := by
  unfold fileD at h
  split at h
  · simp at h
  · exact ⟨statD_mem h, h⟩
theorem TabAt.below {w V : World} {nx : Int} {ds : List InoD} {v : Value} (h : TabAt w nx ds v V) : Below w.heap.size w V := by
  obtain ⟨_, _, _, _, _, hb⟩ := h
  exact hb
end

section
open Go.RowKit
theorem splitB (s : ByteArray) (w : World) (hs : s.size ≤ 4000000) : Calls Tryz.prog 97 #[.string s] w fun e w' => ∃ (a : Option Addr) (m c : Nat), e = .returned (.tuple #[.slice a m c, .bool (splitOf s.data.toList).isSome]) ∧ Below w.heap.size w w' :=
  (splitS s w hs).mono fun e w' h => by
    rcases h with ⟨hb, ⟨hn, a, c, he⟩ | ⟨zs, g, c, hz, he, _, _⟩⟩
    · exact ⟨a, 0, c, by rw [he, hn]; rfl, hb⟩
    · exact ⟨_, _, c, by rw [he, hz]; rfl, hb⟩
end
end Go.Proofs.YtnfplimhhjpbkaaGreatDoor
