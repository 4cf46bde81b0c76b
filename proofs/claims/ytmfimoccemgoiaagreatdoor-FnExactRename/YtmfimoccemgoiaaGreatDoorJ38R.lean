/-
  Joined: GetM, EncDec, SpecGet, FnI, MakeI.
-/
import Derived.Test.YtmfimoccemgoiaaGreatDoorJ37R
import Derived.Deep.OwnRows
namespace Go.Proofs.YtmfimoccemgoiaaGreatDoor
section
open Go.RowKit
/-- k entries read on. -/
def rdE (zs : List Int) (st : Option Nat) : Nat → List (ByteArray × Int) × Option Nat
  | 0 => ([], st)
  | k + 1 => ((rdE zs st k).1 ++ [((rdT zs (rdE zs st k).2).1, ((rdN zs (rdT zs (rdE zs st k).2).2).1 : Int))], (rdN zs (rdT zs (rdE zs st k).2).2).2)
/-- k attributes read on. -/
def rdA (zs : List Int) (st : Option Nat) : Nat → List (ByteArray × ByteArray) × Option Nat
  | 0 => ([], st)
  | k + 1 => ((rdA zs st k).1 ++ [((rdT zs (rdA zs st k).2).1, (rdT zs (rdT zs (rdA zs st k).2).2).1)], (rdT zs (rdT zs (rdA zs st k).2).2).2)
def g1 (zs : List Int) := rdN zs (some 0)
def g2 (zs : List Int) := rdN zs (g1 zs).2
def g3 (zs : List Int) := rdN zs (g2 zs).2
def g4 (zs : List Int) := rdT zs (g3 zs).2
def g5 (zs : List Int) := rdN zs (g4 zs).2
def gE (zs : List Int) := rdE zs (g5 zs).2 (min (g5 zs).1 11)
def g6 (zs : List Int) := rdN zs (gE zs).2
def gA (zs : List Int) := rdA zs (g6 zs).2 (min (g6 zs).1 5)
/-- The inode that the bytes tell. -/
def gD (zs : List Int) : InoD := ⟨((g1 zs).1 : Int), ((g2 zs).1 : Int), ((g3 zs).1 : Int), strZ (g4 zs).1, (gE zs).1, (gA zs).1⟩
end

section
open Go.RowKit
theorem Byt.drop {zs : List Int} (h : Byt zs) (k : Nat) : Byt (zs.drop k) := fun z hz => h z (List.mem_of_mem_drop hz)
end

section
open Go.RowKit
theorem KpT.trans {W W1 W' : World} {ts : List TypeId} (h : KpT W W1 ts) (k : KpT W1 W' ts) : KpT W W' ts := fun B cur t fr hB ht => by
  have e := h B cur t fr hB ht
  rw [k B cur t fr (e.trans hB) ht, e]
end

section
open Go.RowKit
theorem less_trans : ∀ {x y z : List UInt8}, Op.bytesLess x y = true → Op.bytesLess y z = true → Op.bytesLess x z = true
  | _, _, [], _, h2 => by simp [Op.bytesLess] at h2
  | [], _, _ :: _, _, _ => rfl
  | a :: x, [], c :: z, h1, _ => by simp [Op.bytesLess] at h1
  | a :: x, b :: y, c :: z, h1, h2 => by
    simp only [Op.bytesLess, Bool.or_eq_true, Bool.and_eq_true, decide_eq_true_eq, beq_iff_eq] at h1 h2 ⊢
    rcases h1 with h1 | ⟨rfl, h1⟩
    · rcases h2 with h2 | ⟨rfl, h2⟩
      · exact .inl (UInt8.lt_trans h1 h2)
      · exact .inl h1
    · rcases h2 with h2 | ⟨rfl, h2⟩
      · exact .inl h2
      · exact .inr ⟨rfl, less_trans h1 h2⟩
theorem Own.cap' {w : World} {g n c : Nat} {zs : List Int} (h : Own w g n c zs) : n ≤ c := by
  rcases h.2 with ⟨h', _⟩ | ⟨g', c', cur, h', _, _, h5, _⟩
  · simp at h'
  · simp at h'
    omega
end

section
open Go.RowKit
theorem ents_ascM {es : List (ByteArray × Int)} (h : entsOk es = true) (j : Nat) : ∀ i, i < j → j < es.length → Op.bytesLess (es.getD i entD).1.toList (es.getD j entD).1.toList = true := by
  unfold entsOk at h
  simp only [Bool.and_eq_true, List.all_eq_true, List.mem_range] at h
  induction j with
  | zero => intro i hi; omega
  | succ j ih =>
    intro i hi hj
    have h1 := h.1 (j + 1) hj
    unfold entAt at h1
    simp only [Bool.and_eq_true, Bool.or_eq_true, decide_eq_true_eq, Nat.add_sub_cancel] at h1
    have h2 : Op.bytesLess (es.getD j entD).1.toList (es.getD (j + 1) entD).1.toList = true := by
      rcases h1.2 with h0 | h2
      · omega
      · exact h2
    rcases (show i < j ∨ i = j by omega) with h3 | rfl
    · exact less_trans (ih i h3 (by omega)) h2
    · exact h2
theorem dirFor_ok {ds : List InoD} {s : ByteArray} {D : InoD} (h : dirFor ds s = (D, 0)) : badK 1 ds (strB (parentOf s.data.toList).1) = (D, 0) ∧ entOf (strB (parentOf s.data.toList).2.1) D.ents = 0 := by
  unfold dirFor at h
  split at h
  · cases h
  · split at h
    · rename_i h1
      exact absurd (congrArg Prod.snd h) h1
    · rename_i h1
      split at h
      · cases h
      · rename_i h2
        have e := congrArg Prod.fst h
        dsimp only at e
        have h1' : (badK 1 ds (strB (parentOf s.data.toList).1)).2 = 0 := Classical.byContradiction fun c => h1 c
        have h2' : entOf (strB (parentOf s.data.toList).2.1) (badK 1 ds (strB (parentOf s.data.toList).1)).1.ents = 0 := Classical.byContradiction fun c => h2 c
        rw [e] at h2'
        exact ⟨Prod.ext e h1', h2'⟩
theorem entOf_zero {nm : ByteArray} : ∀ {es : List (ByteArray × Int)}, entOf nm es = 0 → (∀ e ∈ es, e.2 ≠ 0) → ∀ e ∈ es, e.1 ≠ nm
  | [], _, _, e, he => by cases he
  | q :: es, h, hz, e, he => by
    unfold entOf at h
    by_cases hq : q.1 = nm
    · rw [if_pos hq] at h
      exact absurd h (hz q (List.mem_cons_self ..))
    · rw [if_neg hq] at h
      rcases List.mem_cons.1 he with rfl | he
      · exact hq
      · exact entOf_zero h (fun x hx => hz x (List.mem_cons_of_mem _ hx)) e he
end
end Go.Proofs.YtmfimoccemgoiaaGreatDoor
