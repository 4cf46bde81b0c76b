/-
  What is looked for in a table: the models (no program).
-/
import Derived.Test.YtnadeelnjhollaaGreatToJV
import Derived.Test.YtnadeelnjhollaaGreatAtSV
import Derived.Test.YtnadeelnjhollaaGreatTabNewV
import Derived.Test.YtnadeelnjhollaaGreatDropWV
import Derived.Test.YtnadeelnjhollaaGreatSPV
namespace Go.Proofs.YtnadeelnjhollaaGreat
open Go.RowKit
/-- The first inode of this number. -/
def look (ds : List InoD) (x : Int) : Option InoD := ds.find? fun D => D.ino == x
theorem look_at (rs : List InoR) (x : Int) : look (rs.map InoR.D) x = (firstAt (inos rs) x).map fun p => (rs.getD p inoZ).D := by
  unfold look firstAt inos
  induction rs with
  | nil => rfl
  | cons r rs ih =>
    rw [List.map_cons, List.find?_cons, List.map_cons, List.findIdx?_cons]
    by_cases h : r.D.ino = x
    · simp [h]
    · have hb : (r.D.ino == x) = false := by simpa using h
      simp only [hb]
      rw [ih]
      cases (List.findIdx? (fun z => z == x) (rs.map fun r => r.D.ino)) <;> simp
theorem lookD_none {rs : List InoR} {x : Int} (h : look (rs.map InoR.D) x = none) : firstAt (inos rs) x = none := by
  rw [look_at] at h
  simpa using h
theorem lookD_some {rs : List InoR} {x : Int} {D : InoD} (h : look (rs.map InoR.D) x = some D) : ∃ (p : Nat) (r : InoR), firstAt (inos rs) x = some p ∧ rs[p]? = some r ∧ r.D = D ∧ p < rs.length := by
  rw [look_at] at h
  cases hf : firstAt (inos rs) x with
  | none => rw [hf] at h; simp at h
  | some p =>
    rw [hf] at h
    have hp := firstAt_in hf
    simp only [Option.map_some, Option.some.injEq] at h
    refine ⟨p, rs[p], rfl, List.getElem?_eq_getElem hp, ?_, hp⟩
    rw [← h, List.getD_eq_getElem?_getD, List.getElem?_eq_getElem hp]
    rfl
theorem look_mem {ds : List InoD} {x : Int} {D : InoD} (h : look ds x = some D) : D ∈ ds ∧ D.ino = x := by
  unfold look at h
  exact ⟨List.mem_of_find?_eq_some h, by simpa using List.find?_some h⟩
theorem atN_none {rs : List InoR} {x : Int} (h : look (rs.map InoR.D) x = none) : atN rs x = -1 := by unfold atN; rw [lookD_none h]
theorem atD_look (rs : List InoR) (x : Int) : atD rs x = (look (rs.map InoR.D) x).getD inoZ.D := by
  unfold atD
  rw [look_at]
  cases firstAt (inos rs) x <;> rfl
theorem atB_look (rs : List InoR) (x : Int) : atB rs x = (look (rs.map InoR.D) x).isSome := by
  unfold atB
  rw [look_at]
  cases firstAt (inos rs) x <;> rfl
/-- A table that can be read: how many inodes, none too great. -/
structure TR (w : World) (a : Option Addr) (n : Nat) (rs : List InoR) : Prop where
  len : rs.length = n
  n : n ≤ 1048576
  small : ∀ r ∈ rs, InoSmall r.D
  rd : RdI w a rs
theorem TR.keep {w w' : World} {a : Option Addr} {n : Nat} {rs : List InoR} (h : TR w a n rs) (hb : Below w.heap.size w w') : TR w' a n rs := ⟨h.len, h.n, h.small, h.rd.keep hb⟩
/-- An inode with no lists of its own. -/
def lift (D : InoD) : InoR := ⟨D, none, 0, none, 0, none, 0⟩
end Go.Proofs.YtnadeelnjhollaaGreat
