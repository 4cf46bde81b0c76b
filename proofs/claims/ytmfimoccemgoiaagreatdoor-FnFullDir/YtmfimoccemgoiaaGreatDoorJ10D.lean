/-
  Joined: Look, Stat5.
-/
import Derived.Test.YtmfimoccemgoiaaGreatDoorJ09D
namespace Go.Proofs.YtmfimoccemgoiaaGreatDoor
section
open Go.RowKit
/-- The first inode of this number. -/
def look (ds : List InoD) (x : Int) : Option InoD := ds.find? fun D => D.ino == x
theorem look_at (rs : List InoR) (x : Int) : look (rs.map InoR.D) x = (firstAt (inos rs) x).map fun p => (rs.getD p inoZ).D := by
  unfold look firstAt inos
  induction rs with
  | nil => rfl
  | cons r rs ih =>
    rw [List.map_cons, List.find?_cons, List.map_cons, List.findIdx?_cons]
    by_cases h : r.D.ino = x
    · simp [h]
    · have hb : (r.D.ino == x) = false := by simpa using h
      simp only [hb]
      rw [ih]
      cases (List.findIdx? (fun z => z == x) (rs.map fun r => r.D.ino)) <;> simp
theorem look_mem {ds : List InoD} {x : Int} {D : InoD} (h : look ds x = some D) : D ∈ ds ∧ D.ino = x := by
  unfold look at h
  exact ⟨List.mem_of_find?_eq_some h, by simpa using List.find?_some h⟩
theorem atD_look (rs : List InoR) (x : Int) : atD rs x = (look (rs.map InoR.D) x).getD inoZ.D := by
  unfold atD
  rw [look_at]
  cases firstAt (inos rs) x <;> rfl
theorem atB_look (rs : List InoR) (x : Int) : atB rs x = (look (rs.map InoR.D) x).isSome := by
  unfold atB
  rw [look_at]
  cases firstAt (inos rs) x <;> rfl
/-- The number that names lead to from a number on, and a code. -/
def walkD (ds : List InoD) (x : Int) : List ByteArray → Int × Int
  | [] => (x, 0)
  | nm :: l => match look ds x with
    | none => (0, 2)
    | some D => if D.kind = 2 then (if entOf nm D.ents = 0 then (0, 2) else walkD ds (entOf nm D.ents) l) else (0, 3)
/-- The same of a path, from the number 1 on. -/
def walkP (ds : List InoD) (s : ByteArray) : Int × Int := match splitOf s.data.toList with
  | none => (0, 1)
  | some l => walkD ds 1 (l.map strB)
theorem strs_strB (zs : List ByteArray) : (strs zs).map strB = zs := by
  induction zs with
  | nil => rfl
  | cons z zs ih =>
    rw [strs, List.map_cons, List.map_cons]
    exact congr (congrArg _ (by unfold strB; apply ByteArray.ext; simp)) ih
theorem walkP_none {ds : List InoD} {s : ByteArray} (h : splitOf s.data.toList = none) : walkP ds s = (0, 1) := by unfold walkP; rw [h]
theorem walkP_some {ds : List InoD} {s : ByteArray} {zs : List ByteArray} (h : splitOf s.data.toList = some (strs zs)) : walkP ds s = walkD ds 1 zs := by unfold walkP; rw [h]; dsimp only; rw [strs_strB]
/-- The inode of a path, and a code. -/
def statD (ds : List InoD) (s : ByteArray) : InoD × Int :=
  if (walkP ds s).2 = 0 then (match look ds (walkP ds s).1 with | none => (inoZ.D, 2) | some D => (D, 0)) else (inoZ.D, (walkP ds s).2)
/-- A table that can be read: how many inodes, none too great. -/
structure TR (w : World) (a : Option Addr) (n : Nat) (rs : List InoR) : Prop where
  len : rs.length = n
  n : n ≤ 1048576
  small : ∀ r ∈ rs, InoSmall r.D
  rd : RdI w a rs
theorem TR.keep {w w' : World} {a : Option Addr} {n : Nat} {rs : List InoR} (h : TR w a n rs) (hb : Below w.heap.size w w') : TR w' a n rs := ⟨h.len, h.n, h.small, h.rd.keep hb⟩
/-- An inode with no lists of its own. -/
def lift (D : InoD) : InoR := ⟨D, none, 0, none, 0, none, 0⟩
theorem lift_map (ds : List InoD) : (ds.map lift).map InoR.D = ds := by
  rw [List.map_map]
  exact (List.map_congr_left fun _ _ => rfl).trans (List.map_id ds)
/-- The table with an inode set, or dropped. -/
def setD (ds : List InoD) (D : InoD) : List InoD := (setR (ds.map lift) (lift D)).map InoR.D
theorem setD_eq {rs : List InoR} {r : InoR} : (setR rs r).map InoR.D = setD (rs.map InoR.D) r.D := setR_D _ _ _ _ (by rw [lift_map]) rfl
def dropD (ds : List InoD) (x : Int) : List InoD := ds.filter fun D => D.ino != x
theorem dropD_eq (rs : List InoR) (x : Int) : (dropR rs x).map InoR.D = dropD (rs.map InoR.D) x := by
  unfold dropR dropD
  rw [List.filter_map]
  rfl
/-- A table is answered: copies, in memory of its own. -/
def TabAt (w : World) (nx : Int) (ds : List InoD) (v : Value) (w' : World) : Prop :=
  ∃ (a : Option Addr) (c : Nat) (js : List InoJ), v = .agg #[.slice a js.length c, .int .i64 nx] ∧ DQA w.heap.size w' (.slice a js.length c) (ds.map lift) js ∧ Below w.heap.size w w'
theorem SetPost.tab {w w' : World} {nx : Int} {ds : List InoR} {e : Ending} (h : SetPost w nx ds e w') : ∃ v, e = .returned v ∧ TabAt w nx (ds.map InoR.D) v w' := by
  obtain ⟨a, c, js, rfl, hq, hb⟩ := h
  exact ⟨_, rfl, a, c, js, rfl, hq.cong (by rw [lift_map]), hb⟩
theorem DropPost.tab {w w' : World} {nx : Int} {ds : List InoR} {e : Ending} (h : DropPost w nx ds e w') : ∃ v, e = .returned v ∧ TabAt w nx (ds.map InoR.D) v w' := by
  obtain ⟨a, c, js, rfl, hq, hb⟩ := h
  exact ⟨_, rfl, a, c, js, rfl, hq.dqa.cong (by rw [lift_map]), hb⟩
/-- What is answered can be read. -/
theorem TabAt.tr {w w' : World} {nx : Int} {ds : List InoD} {v : Value} (h : TabAt w nx ds v w') (hs : ∀ D ∈ ds, InoSmall D) (hl : ds.length ≤ 1048576) : ∃ a n c rs, v = .agg #[.slice a n c, .int .i64 nx] ∧ TR w' a n rs ∧ rs.map InoR.D = ds ∧ Below w.heap.size w w' := by
  obtain ⟨a, c, js, rfl, hq, hb⟩ := h
  have h1 : (js.map InoJ.r).map InoR.D = ds := by rw [hq.ds, lift_map]
  have h2 : js.length = ds.length := by rw [← h1]; simp
  refine ⟨a, js.length, c, js.map InoJ.r, rfl, ⟨by simp, by omega, fun r hr => ?_, hq.rd rfl⟩, h1, hb⟩
  exact hs r.D (by rw [← h1]; exact List.mem_map_of_mem hr)
end

section
open Go.RowKit
theorem statD_bad {ds : List InoD} {s : ByteArray} {i c : Int} (h : walkP ds s = (i, c)) (hc : c ≠ 0) : statD ds s = (inoZ.D, c) := by unfold statD; rw [h]; exact if_neg hc
theorem statD_none {ds : List InoD} {s : ByteArray} {i : Int} (h : walkP ds s = (i, 0)) (hl : look ds i = none) : statD ds s = (inoZ.D, 2) := by
  unfold statD
  rw [h]
  dsimp only
  rw [if_pos rfl, hl]
theorem statD_some {ds : List InoD} {s : ByteArray} {i : Int} {D : InoD} (h : walkP ds s = (i, 0)) (hl : look ds i = some D) : statD ds s = (D, 0) := by
  unfold statD
  rw [h]
  dsimp only
  rw [if_pos rfl, hl]
end
end Go.Proofs.YtmfimoccemgoiaaGreatDoor
