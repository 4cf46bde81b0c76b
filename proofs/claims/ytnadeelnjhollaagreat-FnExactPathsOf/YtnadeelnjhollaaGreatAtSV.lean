/-
  What the specification's l4At and InodeAt answer.
-/
import Derived.Test.YtnadeelnjhollaaGreatCopySV
import Derived.Test.YtnadeelnjhollaaGreatByNumV
namespace Go.Proofs.YtnadeelnjhollaaGreat
open Go.RowKit
theorem inos_cnt (rs : List InoR) : (inos rs).length = rs.length := by simp [inos]
theorem firstAt_in {rs : List InoR} {x : Int} {p : Nat} (h : firstAt (inos rs) x = some p) : p < rs.length := by
  unfold firstAt at h
  have := (List.findIdx?_eq_some_iff_getElem.1 h).1
  rw [inos_cnt] at this
  exact this
theorem firstAt_is {xs : List Int} {x : Int} {k : Nat} (h : ∀ j, j < k → xs[j]? ≠ some x) (hk : xs[k]? = some x) : firstAt xs x = some k := by
  unfold firstAt
  obtain ⟨hl, he⟩ := List.getElem?_eq_some_iff.1 hk
  refine List.findIdx?_eq_some_iff_getElem.2 ⟨hl, by simp [he], fun j hj => ?_⟩
  have := h j hj
  rw [List.getElem?_eq_getElem (by omega)] at this
  simpa using this
theorem firstAt_no {xs : List Int} {x : Int} (h : ∀ j, j < xs.length → xs[j]? ≠ some x) : firstAt xs x = none := by
  unfold firstAt
  rw [List.findIdx?_eq_none_iff]
  intro y hy
  obtain ⟨j, hj, rfl⟩ := List.getElem_of_mem hy
  have := h j hj
  rw [List.getElem?_eq_getElem hj] at this
  simpa using this
/-- The place of the first inode of this number; -1. -/
def atN (rs : List InoR) (x : Int) : Int := match firstAt (inos rs) x with | some p => (p : Int) | none => -1
theorem inos_is {rs : List InoR} {k : Nat} {r : InoR} (h : rs[k]? = some r) : (inos rs)[k]? = some r.D.ino := by simp [inos, h]
/-- The inode that stands there, and whether one does. -/
def atD (rs : List InoR) (x : Int) : InoD := match firstAt (inos rs) x with | some p => (rs.getD p inoZ).D | none => inoZ.D
def atB (rs : List InoR) (x : Int) : Bool := (firstAt (inos rs) x).isSome
/-- What both InodeAt functions answer. -/
def AtPost (w : World) (rs : List InoR) (x : Int) (e : Ending) (w' : World) : Prop :=
  ∃ (b1 : Option Addr) (d1 : Nat) (b2 : Option Addr) (d2 : Nat) (b3 : Option Addr) (d3 : Nat), e = .returned (.tuple #[.agg #[.int .i64 (atD rs x).ino, .int .i64 (atD rs x).kind, .int .i64 (atD rs x).links, .slice b1 (atD rs x).data.length d1, .slice b2 (atD rs x).ents.length d2, .slice b3 (atD rs x).attrs.length d3], .bool (atB rs x)]) ∧
    InoG w' w.heap.size w'.heap.size (atD rs x) (.slice b1 (atD rs x).data.length d1) (.slice b2 (atD rs x).ents.length d2) (.slice b3 (atD rs x).attrs.length d3) ∧ Below w.heap.size w w'
set_option maxRecDepth 100000 in
set_option maxHeartbeats 2000000 in
theorem l4At_any (a : Option Addr) (n cap : Nat) (nx x : Int) (rs : List InoR) (w : World) (hn : rs.length = n) (hs : n ≤ 4000000) (hr : RdI w a rs) :
    Calls Tryz.prog 44 #[.agg #[.slice a n cap, .int .i64 nx], .int .i64 x] w fun e w' => e = .returned (.int .i64 (atN rs x)) ∧ Below w.heap.size w w' := by
  have B0 : Below w.heap.size w (w.alloc (.cells #[.slice a n cap, .int .i64 nx] 30)) := (Below.refl _ w).alloc (Nat.le_refl _) _
  have HB : Hid _ := B0
  have HR : Hid _ := hr.keep B0
  have hn' : Hid (rs.length = n) := hn
  have hR : Hid (∀ (k : Nat) (r : InoR), (∀ j, j < k → (inos rs)[j]? ≠ some x) → rs[k]? = some r → r.D.ino = x → (k : Int) = atN rs x) := by
    intro k r h hk he
    unfold atN
    rw [firstAt_is h (by rw [inos_is hk, he])]
  have hE : Hid ((∀ j, j < n → (inos rs)[j]? ≠ some x) → (-1 : Int) = atN rs x) := by
    intro h
    unfold atN
    rw [firstAt_no (fun j hj => h j (by rw [inos_cnt, hn] at hj; exact hj))]
  generalize atN rs x = R at hR hE ⊢
  clear hr hn B0
  go_enter Tryz.func44, Tryz.ntmps44
  go_wp2
  go_loop [5] (fun i => ∃ k : Nat, k ≤ n ∧ i = .int .i64 k ∧ Hid (∀ j, j < k → (inos rs)[j]? ≠ some x)) (fun i => n - (intOf i).toNat)
  case atStart => exact ⟨0, Nat.zero_le _, rfl, fun j hj => by omega⟩
  case round =>
    obtain ⟨k, hk, rfl, hall⟩ := hrel
    by_cases hkn : k < n
    · have hki : (k : Int) < (n : Int) := by omega
      obtain ⟨r, hrk⟩ : ∃ r, rs[k]? = some r := ⟨_, List.getElem?_eq_getElem (by rw [hn'.out]; exact hkn)⟩
      obtain ⟨b, off, rfl, hlt, hc⟩ := RdI.lt HR.out (by intro h; have := hn'.out; rw [h] at this; simp at this; omega)
      have x0 := (hc k r hrk).1.c0
      have hyes : Hid (r.D.ino = x → (k : Int) = R) := fun he => hR.out k r hall.out hrk he
      have hno : Hid (r.D.ino ≠ x → ∀ j, j < k + 1 → (inos rs)[j]? ≠ some x) := by
        intro he j hj
        rcases (show j < k ∨ j = k by omega) with h | rfl
        · exact hall.out j h
        · rw [inos_is hrk]
          simpa using he
      generalize r.D.ino = i1 at x0 hyes hno
      clear hc hrk hall hR hE HR
      by_cases he : i1 = x
      · have hb : (i1 == x) = true := by simp [he]
        have hend : Hid ((k : Int) = R) := hyes.out he
        subst he
        clear hyes hno
        go_wp2
        go_ret
        exact ⟨ret_int hend.out, HB.out⟩
      · have hb : (i1 == x) = false := by simp [he]
        have hnx : Hid _ := hno.out he
        clear hyes hno
        go_wp2
        go_round
        case rel => exact ⟨k + 1, by omega, by go_num, hnx⟩
        case measure => simp [intOf]; omega
    · have hki : ¬ (k : Int) < (n : Int) := by omega
      have hend : Hid ((-1 : Int) = R) := hE.out (fun j hj => hall.out j (by omega))
      clear hR hE HR hall
      go_wp2
      go_ret
      exact ⟨ret_int hend.out, HB.out⟩
end Go.Proofs.YtnadeelnjhollaaGreat
