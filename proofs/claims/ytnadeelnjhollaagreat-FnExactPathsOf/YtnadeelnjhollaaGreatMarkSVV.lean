/-
  The laws' functions over a list of texts in a row that may be nil: held against another one, marked, and looked at again.
-/
import Derived.Test.YtnadeelnjhollaaGreatDropSV
import Derived.Test.YtnadeelnjhollaaGreatSortSV
import Derived.Test.YtnadeelnjhollaaGreatMarkVV
namespace Go.Proofs.YtnadeelnjhollaaGreat
open Go.RowKit
theorem own_rdS {W : World} {B : Nat} {a : Option Addr} {n c : Nat} {L : List ByteArray} (h : W.ownsRow B 9 1 (.slice a n c) n (sV L)) : RdS W a L := by
  rcases h.2 with ⟨hv, rfl⟩ | ⟨g, cap, cur, hv, _⟩
  · left
    have := h.1
    rw [sV_len] at this
    exact List.length_eq_zero_iff.1 (by omega)
  · right
    simp only [Value.slice.injEq] at hv
    obtain ⟨rfl, _, rfl⟩ := hv
    refine ⟨g, 0, rfl, fun i hi => ?_⟩
    have h1 := h.1
    rw [sV_len] at h1
    have := World.ownsRow.cellAt h i (by omega)
    rw [Nat.zero_add, this]
    rw [List.getD_eq_getElem?_getD, List.getElem?_eq_getElem hi]
    exact sV_at (List.getElem?_eq_getElem hi)
theorem row_raise {W : World} {B B' : Nat} {e : TypeId} {s n : Nat} {v : Value} {xs : List Value} (h : W.ownsRow B e s v n xs) (hg : ∀ g, v.ownBlock = some g → B' ≤ g) : W.ownsRow B' e s v n xs := by
  refine ⟨h.1, ?_⟩
  rcases h.2 with hn | ⟨g, cap, cur, hv, _, rest⟩
  · exact .inl hn
  · exact .inr ⟨g, cap, cur, hv, hg g (by rw [hv]; rfl), rest⟩
theorem eqSV (a a' : Option Addr) (n cap cap' : Nat) (L : List ByteArray) (w : World) (hn : L.length = n) (hs : n ≤ 4000000) (hr : RdS w a L) (hr' : RdS w a' L) :
    Calls Tryz.prog 9 #[.slice a n cap, .slice a' n cap'] w fun e w' => e = .returned (.bool true) ∧ Below w.heap.size w w' :=
  (eqS_same a a' n cap cap' L w hn hs hr hr').mono fun _ _ ⟨h, d, hd⟩ => ⟨h, by subst hd; exact below_drewN (Below.refl _ _) d⟩
theorem markSV (B : Nat) (v : Value) (n : Nat) (L : List ByteArray) (w : World) (hs : n ≤ 100000) (hown : w.ownsRow B 9 1 v n (sV L)) :
    Calls Tryz.prog 12 #[v, .int .i64 1] w fun e w' => e = .returned (.int .i64 ((n : Int) + 1)) ∧ w'.ownsRow B 9 1 v n (sV (marksS n)) ∧ w.grownBy w' v.ownBlock := by
  rcases hown.2 with ⟨rfl, rfl⟩ | ⟨g, cap, cur, rfl, hg, _⟩
  · refine (mark0 none 0 w).mono ?_
    rintro e w' ⟨rfl, hw⟩
    obtain rfl := hw.symm
    exact ⟨rfl, ⟨rfl, .inl ⟨rfl, rfl⟩⟩, grV _ _⟩
  · refine (markS_any g n cap L w hs (row_lower hown (Nat.zero_le _))).mono ?_
    rintro e w' ⟨rfl, ho, hgr⟩
    exact ⟨rfl, row_raise ho (fun m hm => by simp [Value.ownBlock] at hm; omega), hgr⟩
theorem heldSV (B : Nat) (v : Value) (n : Nat) (w : World) (hs : n ≤ 100000) (hown : w.ownsRow B 9 1 v n (sV (marksS n))) :
    Calls Tryz.prog 13 #[v, .int .i64 1] w fun e w' => e = .returned (.int .i64 ((n : Int) + 1)) ∧ Below w.heap.size w w' := by
  rcases hown.2 with ⟨rfl, rfl⟩ | ⟨g, cap, cur, rfl, hg, _⟩
  · refine (held0 none 0 w).mono ?_
    rintro e w' ⟨rfl, hw⟩
    obtain rfl := hw.symm
    exact ⟨rfl, Below.refl _ _⟩
  · exact heldS_any g n cap w hs (row_lower hown (Nat.zero_le _))
theorem paths_len (nx : Int) (ds : List InoD) : (pathsD nx ds).length ≤ 300 := by
  unfold pathsD
  rw [sortS_len]
  split
  · rename_i h
    exact (treeD_tr h).few 31 _
  · simp
end Go.Proofs.YtnadeelnjhollaaGreat
