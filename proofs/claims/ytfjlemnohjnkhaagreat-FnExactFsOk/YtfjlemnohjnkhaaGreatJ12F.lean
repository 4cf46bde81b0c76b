/-
  Joined: EntOf, Look, VolM.
-/
import Derived.Test.YtfjlemnohjnkhaaGreatJ08F
import Derived.Test.YtfjlemnohjnkhaaGreatJ10F
import Derived.Deep.RegionLaw
import Derived.Lib.Slices
import Derived.Lib.Walk
import Derived.Lib.Bytealg
import Derived.Lib.IndexLaws
import Derived.Lib.BufferWrite
import Derived.Lib.UnsafeStr
import Derived.Laws.MakeOwn
import Derived.Laws.Strings3
import Derived.RangeFuncBox
import Derived.RangeFuncNested
import Derived.RangeFuncBound
import Derived.RangeFuncCalls
import Derived.RangeFuncLeaves
import Derived.Shelf.Abstract
import Derived.Shelf.RegionOpen
import Derived.OwnWalkIn
import Derived.TacticsInMore
import Derived.LoopNIn
import Derived.LoopIn
namespace Go.Proofs.YtfjlemnohjnkhaaGreat
section
open Go.RowKit
theorem bytes_ne {z y : ByteArray} (h : z ≠ y) : (z.toList == y.toList) = false := by
  rw [beq_eq_false_iff_ne]
  intro e
  rw [Lib.toList_data, Lib.toList_data] at e
  apply h
  rw [← Lib.mk_data z, ← Lib.mk_data y, e]
end

section
open Go.RowKit
/-- The first inode of this number. -/
def look (ds : List InoD) (x : Int) : Option InoD := ds.find? fun D => D.ino == x
theorem look_at (rs : List InoR) (x : Int) : look (rs.map InoR.D) x = (firstAt (inos rs) x).map fun p => (rs.getD p inoZ).D := by
  unfold look firstAt inos
  induction rs with
  | nil => rfl
  | cons r rs ih =>
    rw [List.map_cons, List.find?_cons, List.map_cons, List.findIdx?_cons]
    by_cases h : r.D.ino = x
    · simp [h]
    · have hb : (r.D.ino == x) = false := by simpa using h
      simp only [hb]
      rw [ih]
      cases (List.findIdx? (fun z => z == x) (rs.map fun r => r.D.ino)) <;> simp
theorem lookD_none {rs : List InoR} {x : Int} (h : look (rs.map InoR.D) x = none) : firstAt (inos rs) x = none := by
  rw [look_at] at h
  simpa using h
theorem lookD_some {rs : List InoR} {x : Int} {D : InoD} (h : look (rs.map InoR.D) x = some D) : ∃ (p : Nat) (r : InoR), firstAt (inos rs) x = some p ∧ rs[p]? = some r ∧ r.D = D ∧ p < rs.length := by
  rw [look_at] at h
  cases hf : firstAt (inos rs) x with
  | none => rw [hf] at h; simp at h
  | some p =>
    rw [hf] at h
    have hp := firstAt_in hf
    simp only [Option.map_some, Option.some.injEq] at h
    refine ⟨p, rs[p], rfl, List.getElem?_eq_getElem hp, ?_, hp⟩
    rw [← h, List.getD_eq_getElem?_getD, List.getElem?_eq_getElem hp]
    rfl
theorem look_mem {ds : List InoD} {x : Int} {D : InoD} (h : look ds x = some D) : D ∈ ds ∧ D.ino = x := by
  unfold look at h
  exact ⟨List.mem_of_find?_eq_some h, by simpa using List.find?_some h⟩
theorem atN_none {rs : List InoR} {x : Int} (h : look (rs.map InoR.D) x = none) : atN rs x = -1 := by unfold atN; rw [lookD_none h]
theorem atD_look (rs : List InoR) (x : Int) : atD rs x = (look (rs.map InoR.D) x).getD inoZ.D := by
  unfold atD
  rw [look_at]
  cases firstAt (inos rs) x <;> rfl
theorem atB_look (rs : List InoR) (x : Int) : atB rs x = (look (rs.map InoR.D) x).isSome := by
  unfold atB
  rw [look_at]
  cases firstAt (inos rs) x <;> rfl
/-- A table that can be read: how many inodes, none too great. -/
structure TR (w : World) (a : Option Addr) (n : Nat) (rs : List InoR) : Prop where
  len : rs.length = n
  n : n ≤ 1048576
  small : ∀ r ∈ rs, InoSmall r.D
  rd : RdI w a rs
theorem TR.keep {w w' : World} {a : Option Addr} {n : Nat} {rs : List InoR} (h : TR w a n rs) (hb : Below w.heap.size w w') : TR w' a n rs := ⟨h.len, h.n, h.small, h.rd.keep hb⟩
/-- An inode with no lists of its own. -/
def lift (D : InoD) : InoR := ⟨D, none, 0, none, 0, none, 0⟩
end

section
open Go.RowKit
/-- What a volume says. -/
structure VolD where
  id : Int
  name : ByteArray
  ro : Bool
  limit : Int
  nx : Int
  ds : List InoD
/-- A volume, and where its table's lists lie. -/
structure VolR where
  id : Int
  name : ByteArray
  ro : Bool
  limit : Int
  a : Option Addr
  cap : Nat
  nx : Int
  rs : List InoR
def VolR.D (r : VolR) : VolD := ⟨r.id, r.name, r.ro, r.limit, r.nx, r.rs.map InoR.D⟩
def VolR.v (r : VolR) : Value := .agg #[.int .i64 r.id, .string r.name, .bool r.ro, .int .i64 r.limit, .slice r.a r.rs.length r.cap, .int .i64 r.nx]
def VolR.rd (w : World) (r : VolR) : Prop := RdI w r.a r.rs
theorem VolR.rd.keep {w w' : World} {r : VolR} (h : r.rd w) (hb : Below w.heap.size w w') : r.rd w' := RdI.keep h hb
/-- The six cells of a volume. -/
def VolR.six (r : VolR) : List Value := [.int .i64 r.id, .string r.name, .bool r.ro, .int .i64 r.limit, .slice r.a r.rs.length r.cap, .int .i64 r.nx]
/-- The cells of a list of volumes. -/
def vv (rs : List VolR) : List Value := rs.flatMap VolR.six
theorem vv_cons (r : VolR) (rs : List VolR) : vv (r :: rs) = r.six ++ vv rs := rfl
theorem sixV_length (r : VolR) : r.six.length = 6 := rfl
theorem vv_length (rs : List VolR) : (vv rs).length = rs.length * 6 := by
  induction rs with
  | nil => rfl
  | cons r rs ih => rw [vv_cons, List.length_append, ih, sixV_length, List.length_cons]; omega
theorem vv_at (rs : List VolR) (i j : Nat) (r : VolR) (h : rs[i]? = some r) (hj : j < 6) : (vv rs)[i * 6 + j]? = r.six[j]? := by
  induction rs generalizing i with
  | nil => simp at h
  | cons q rs ih =>
    rw [vv_cons]
    cases i with
    | zero =>
      simp at h
      subst h
      rw [List.getElem?_append_left (by rw [sixV_length]; omega), Nat.zero_mul, Nat.zero_add]
    | succ i =>
      rw [List.getElem?_append_right (by rw [sixV_length]; omega), sixV_length, show (i + 1) * 6 + j - 6 = i * 6 + j by omega]
      exact ih i (by simpa using h)
theorem vv_set (rs : List VolR) (i : Nat) (r : VolR) (h : i < rs.length) : ((((((vv rs).set (i * 6) (.int .i64 r.id)).set (i * 6 + 1) (.string r.name)).set (i * 6 + 2) (.bool r.ro)).set (i * 6 + 3) (.int .i64 r.limit)).set (i * 6 + 4) (.slice r.a r.rs.length r.cap)).set (i * 6 + 5) (.int .i64 r.nx) = vv (rs.set i r) := by
  induction rs generalizing i with
  | nil => simp at h
  | cons q rs ih =>
    cases i with
    | zero => simp [vv_cons, VolR.six]
    | succ i =>
      have hl := sixV_length q
      have e : ∀ (l : List Value) (m : Nat) (x : Value), (q.six ++ l).set ((i + 1) * 6 + m) x = q.six ++ l.set (i * 6 + m) x := fun l m x => by
        rw [List.set_append_right _ _ (by rw [hl]; omega), hl, show (i + 1) * 6 + m - 6 = i * 6 + m by omega]
      have e0 : ∀ (l : List Value) (x : Value), (q.six ++ l).set ((i + 1) * 6) x = q.six ++ l.set (i * 6) x := fun l x => e l 0 x
      rw [vv_cons, e0, e, e, e, e, e, List.set_cons_succ, vv_cons, ih i (by simpa using h)]
/-- The six cells of a volume from an address on. -/
structure SixV (w : World) (b off : Nat) (r : VolR) : Prop where
  c0 : w.cell? ⟨b, off, none⟩ = some (.int .i64 r.id)
  c1 : w.cell? ⟨b, off + 1, none⟩ = some (.string r.name)
  c2 : w.cell? ⟨b, off + 2, none⟩ = some (.bool r.ro)
  c3 : w.cell? ⟨b, off + 3, none⟩ = some (.int .i64 r.limit)
  c4 : w.cell? ⟨b, off + 4, none⟩ = some (.slice r.a r.rs.length r.cap)
  c5 : w.cell? ⟨b, off + 5, none⟩ = some (.int .i64 r.nx)
theorem SixV.keep {w w' : World} {b off B : Nat} {r : VolR} (h : SixV w b off r) (hb : Below B w w') (hlt : b < B) : SixV w' b off r :=
  ⟨(hb.cell hlt).trans h.c0, (hb.cell hlt).trans h.c1, (hb.cell hlt).trans h.c2, (hb.cell hlt).trans h.c3, (hb.cell hlt).trans h.c4, (hb.cell hlt).trans h.c5⟩
theorem SixV.lt {w : World} {b off : Nat} {r : VolR} (h : SixV w b off r) : b < w.heap.size := World.block_lt_of_cell? w _ h.c0
/-- The volumes rs can be read from the address a on. -/
def RdVo (w : World) (a : Option Addr) (rs : List VolR) : Prop :=
  rs = [] ∨ ∃ b off, a = some ⟨b, off, none⟩ ∧ ∀ i r, rs[i]? = some r → SixV w b (off + i * 6) r ∧ r.rd w
theorem RdVo.lt {w : World} {a : Option Addr} {rs : List VolR} (h : RdVo w a rs) (hz : rs ≠ []) : ∃ b off, a = some ⟨b, off, none⟩ ∧ b < w.heap.size ∧ ∀ i r, rs[i]? = some r → SixV w b (off + i * 6) r ∧ r.rd w := by
  rcases h with h | ⟨b, off, rfl, hc⟩
  · exact absurd h hz
  · obtain ⟨r, l, rfl⟩ := List.exists_cons_of_ne_nil hz
    exact ⟨b, off, rfl, (hc 0 r rfl).1.lt, hc⟩
theorem RdVo.keep {w w' : World} {a : Option Addr} {rs : List VolR} (h : RdVo w a rs) (hb : Below w.heap.size w w') : RdVo w' a rs := by
  by_cases hz : rs = []
  · exact .inl hz
  · obtain ⟨b, off, rfl, hlt, hc⟩ := h.lt hz
    exact .inr ⟨b, off, rfl, fun i r hi => ⟨(hc i r hi).1.keep hb hlt, (hc i r hi).2.keep hb⟩⟩
/-- The block g is a row of volumes of the call's own. -/
def OwnVo (w : World) (g n cap : Nat) (rs : List VolR) : Prop := w.ownsRow 0 49 6 (.slice (some ⟨g, 0, none⟩) n cap) n (vv rs)
theorem OwnVo.len {w : World} {g n cap : Nat} {rs : List VolR} (h : OwnVo w g n cap rs) : rs.length = n := by
  have := h.1
  rw [vv_length] at this
  omega
theorem OwnVo.lt {w : World} {g n cap : Nat} {rs : List VolR} (h : OwnVo w g n cap rs) : g < w.heap.size := (World.ownsRow.lt h g rfl).2
theorem OwnVo.keep {w w' : World} {g n cap : Nat} {rs : List VolR} (h : OwnVo w g n cap rs) (hb : Below w.heap.size w w') : OwnVo w' g n cap rs := by
  have hlt := h.lt
  refine ⟨h.1, ?_⟩
  rcases h.2 with ⟨h', _⟩ | ⟨g', cap', cur, h', hb', hgg, rest⟩
  · simp at h'
  · refine .inr ⟨g', cap', cur, h', hb', ?_, rest⟩
    rw [hb.block g' (Array.getElem?_eq_some_iff.1 hgg).1]
    exact hgg
theorem OwnVo.kept {w w' : World} {g n cap g2 : Nat} {rs : List VolR} (h : OwnVo w g n cap rs) (hg : w.grownBy w' (some g2)) (hne : g ≠ g2) : OwnVo w' g n cap rs := by
  refine ⟨h.1, ?_⟩
  rcases h.2 with ⟨h', _⟩ | ⟨g', cap', cur, h', hb', hgg, rest⟩
  · simp at h'
  · refine .inr ⟨g', cap', cur, h', hb', ?_, rest⟩
    simp only [Value.slice.injEq, Option.some.injEq, Addr.mk.injEq, and_true, true_and] at h'
    obtain ⟨rfl, rfl⟩ := h'
    rw [hg.block g (Array.getElem?_eq_some_iff.1 hgg).1 (by simpa using hne)]
    exact hgg
theorem OwnVo.frozen {w : World} {g n cap : Nat} {rs : List VolR} (h : OwnVo w g n cap rs) (i : Nat) : w.frozen? ⟨g, i, none⟩ = false := World.ownsRow.frozenAt h i
theorem OwnVo.cell {w : World} {g n cap : Nat} {rs : List VolR} (h : OwnVo w g n cap rs) (i j : Nat) (r : VolR) (hi : rs[i]? = some r) (hj : j < 6) : w.cell? ⟨g, i * 6 + j, none⟩ = r.six[j]? := by
  have hl := h.len
  have h2 := (List.getElem?_eq_some_iff.1 hi).1
  rw [World.ownsRow.cellAt h (i * 6 + j) (by omega)]
  exact vv_at rs i j r hi hj
theorem OwnVo.six {w : World} {g n cap : Nat} {rs : List VolR} (h : OwnVo w g n cap rs) (i : Nat) (r : VolR) (hi : rs[i]? = some r) : SixV w g (i * 6) r :=
  ⟨h.cell i 0 r hi (by omega), h.cell i 1 r hi (by omega), h.cell i 2 r hi (by omega), h.cell i 3 r hi (by omega), h.cell i 4 r hi (by omega), h.cell i 5 r hi (by omega)⟩
theorem ownVo_stored {w : World} {g n cap : Nat} {rs : List VolR} (h : OwnVo w g n cap rs) (k : Nat) (hk : k < n) (r : VolR) : OwnVo ((((((w.setCell ⟨g, k * 6, none⟩ (.int .i64 r.id)).setCell ⟨g, k * 6 + 1, none⟩ (.string r.name)).setCell ⟨g, k * 6 + 2, none⟩ (.bool r.ro)).setCell ⟨g, k * 6 + 3, none⟩ (.int .i64 r.limit)).setCell ⟨g, k * 6 + 4, none⟩ (.slice r.a r.rs.length r.cap)).setCell ⟨g, k * 6 + 5, none⟩ (.int .i64 r.nx)) g n cap (rs.set k r) := by
  have hl := h.len
  have s0 := (World.ownsRow.stored h (k * 6) (.int .i64 r.id)).1
  have s1 := (World.ownsRow.stored s0 (k * 6 + 1) (.string r.name)).1
  have s2 := (World.ownsRow.stored s1 (k * 6 + 2) (.bool r.ro)).1
  have s3 := (World.ownsRow.stored s2 (k * 6 + 3) (.int .i64 r.limit)).1
  have s4 := (World.ownsRow.stored s3 (k * 6 + 4) (.slice r.a r.rs.length r.cap)).1
  have s5 := (World.ownsRow.stored s4 (k * 6 + 5) (.int .i64 r.nx)).1
  rw [vv_set rs k r (by omega)] at s5
  exact s5
/-- The volume with nothing. -/
def volZ : VolR := ⟨0, ⟨#[]⟩, false, 0, none, 0, 0, []⟩
theorem made_ownVo {w : World} {g n : Nat} (h : w.ownsRow 0 49 6 (.slice (some ⟨g, 0, none⟩) n n) n (madeCells (Value.agg #[.int .i64 0, .string ⟨#[]⟩, .bool false, .int .i64 0, .slice none 0 0, .int .i64 0]).cells (n * 6)).toList) : OwnVo w g n n (List.replicate n volZ) := by
  unfold OwnVo
  have e : (madeCells (Value.agg #[.int .i64 0, .string ⟨#[]⟩, .bool false, .int .i64 0, .slice none 0 0, .int .i64 0]).cells (n * 6)).toList = vv (List.replicate n volZ) := by
    apply List.ext_getElem?
    intro m
    by_cases hm : m < n * 6
    · have h1 := vv_at (List.replicate n volZ) (m / 6) (m % 6) volZ (by rw [List.getElem?_replicate, if_pos (by omega)]) (by omega)
      rw [show m / 6 * 6 + m % 6 = m by omega] at h1
      rw [h1]
      have hlen : (madeCells (Value.agg #[.int .i64 0, .string ⟨#[]⟩, .bool false, .int .i64 0, .slice none 0 0, .int .i64 0]).cells (n * 6)).toList.length = n * 6 := by simp [madeCells]
      rw [List.getElem?_eq_getElem (by rw [hlen]; exact hm)]
      simp only [madeCells, Value.cells]
      rcases (show m % 6 = 0 ∨ m % 6 = 1 ∨ m % 6 = 2 ∨ m % 6 = 3 ∨ m % 6 = 4 ∨ m % 6 = 5 by omega) with e | e | e | e | e | e <;> simp [e, volZ, VolR.six]
    · rw [List.getElem?_eq_none (by simp [madeCells]; omega), List.getElem?_eq_none (by rw [vv_length]; simp; omega)]
  rw [← e]
  exact h
/-- What is right to be measured of a volume that came in. -/
structure VolIn (r : VolR) : Prop where
  id : (Lit.int .i64 r.id).wf = true
  name : r.name.size ≤ maxLen
  limit : (Lit.int .i64 r.limit).wf = true
  nx : (Lit.int .i64 r.nx).wf = true
  len : r.rs.length ≤ maxLen
  ino : ∀ q ∈ r.rs, InoIn q.D
structure VolSmall (r : VolR) : Prop where
  name : r.name.size ≤ 1048576
  len : r.rs.length ≤ 1048576
  ino : ∀ q ∈ r.rs, InoSmall q.D
end
end Go.Proofs.YtfjlemnohjnkhaaGreat
