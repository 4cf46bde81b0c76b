/-
  What an inode's bytes tell, read on from a place: plain definitions.
-/
import Derived.Test.YtnllhpeddoaehaaReader
import Derived.Test.YtnllhpeddoaehaaInoEnc
namespace Go.Proofs.Ytnllhpeddoaehaa
open Go.RowKit

/-- k entries read on. -/
def rdE (zs : List Int) (st : Option Nat) : Nat → List (ByteArray × Int) × Option Nat
  | 0 => ([], st)
  | k + 1 => ((rdE zs st k).1 ++ [((rdT zs (rdE zs st k).2).1, ((rdN zs (rdT zs (rdE zs st k).2).2).1 : Int))], (rdN zs (rdT zs (rdE zs st k).2).2).2)
/-- k attributes read on. -/
def rdA (zs : List Int) (st : Option Nat) : Nat → List (ByteArray × ByteArray) × Option Nat
  | 0 => ([], st)
  | k + 1 => ((rdA zs st k).1 ++ [((rdT zs (rdA zs st k).2).1, (rdT zs (rdT zs (rdA zs st k).2).2).1)], (rdT zs (rdT zs (rdA zs st k).2).2).2)
theorem rdE_len (zs : List Int) (st : Option Nat) (k : Nat) : (rdE zs st k).1.length = k := by
  induction k with
  | zero => rfl
  | succ k ih => simp [rdE, ih]
theorem rdA_len (zs : List Int) (st : Option Nat) (k : Nat) : (rdA zs st k).1.length = k := by
  induction k with
  | zero => rfl
  | succ k ih => simp [rdA, ih]
theorem rdE_none {zs : List Int} {st : Option Nat} {k m : Nat} (h : (rdE zs st k).2 = none) (hm : k ≤ m) : (rdE zs st m).2 = none := by
  obtain ⟨d, rfl⟩ := Nat.exists_eq_add_of_le hm
  induction d with
  | zero => exact h
  | succ d ih =>
    have := ih (by omega)
    show (rdN zs (rdT zs (rdE zs st (k + d)).2).2).2 = none
    rw [this]; rfl
theorem rdA_none {zs : List Int} {st : Option Nat} {k m : Nat} (h : (rdA zs st k).2 = none) (hm : k ≤ m) : (rdA zs st m).2 = none := by
  obtain ⟨d, rfl⟩ := Nat.exists_eq_add_of_le hm
  induction d with
  | zero => exact h
  | succ d ih =>
    have := ih (by omega)
    show (rdT zs (rdT zs (rdA zs st (k + d)).2).2).2 = none
    rw [this]; rfl

def g1 (zs : List Int) := rdN zs (some 0)
def g2 (zs : List Int) := rdN zs (g1 zs).2
def g3 (zs : List Int) := rdN zs (g2 zs).2
def g4 (zs : List Int) := rdT zs (g3 zs).2
def g5 (zs : List Int) := rdN zs (g4 zs).2
def gE (zs : List Int) := rdE zs (g5 zs).2 (min (g5 zs).1 11)
def g6 (zs : List Int) := rdN zs (gE zs).2
def gA (zs : List Int) := rdA zs (g6 zs).2 (min (g6 zs).1 5)
/-- The inode that the bytes tell. -/
def gD (zs : List Int) : InoD := ⟨((g1 zs).1 : Int), ((g2 zs).1 : Int), ((g3 zs).1 : Int), strZ (g4 zs).1, (gE zs).1, (gA zs).1⟩
/-- It is there whole, nothing follows, and it is right. -/
def gOk (zs : List Int) : Bool := decide ((gA zs).2 = some zs.length) && inoOk (gD zs)

theorem rdT_size (zs : List Int) (st : Option Nat) : (rdT zs st).1.size ≤ zs.length := by
  cases st with
  | none => simp [rdT]
  | some p =>
    unfold rdT
    simp only
    split
    · unfold gtOf
      split
      · simp
      · rw [show (str ((zs.drop (gn zs (p : Int)).2.1).take (gn zs (p : Int)).1), (gn zs (p : Int)).2.1 + (gn zs (p : Int)).1, true).1 = str ((zs.drop (gn zs (p : Int)).2.1).take (gn zs (p : Int)).1) from rfl, str_size]
        simp
        omega
    · simp
theorem rdN_le (zs : List Int) (st : Option Nat) : (rdN zs st).1 ≤ 1000000 := by
  cases st with
  | none => simp [rdN]
  | some p =>
    unfold rdN
    simp only
    split
    · rename_i h
      exact (gn_next h).2.2
    · simp
theorem rdN_pos {zs : List Int} {st : Option Nat} {q : Nat} (h0 : ∀ p, st = some p → p ≤ zs.length) (h : (rdN zs st).2 = some q) : q ≤ zs.length := by
  cases st with
  | none => simp [rdN] at h
  | some p =>
    unfold rdN at h
    simp only at h
    split at h
    · rename_i hk
      simp at h
      have := (gn_next hk).2.1
      omega
    · simp at h
theorem rdE_size (zs : List Int) (st : Option Nat) (k : Nat) : ∀ q ∈ (rdE zs st k).1, q.1.size ≤ zs.length := by
  induction k with
  | zero => intro q hq; simp [rdE] at hq
  | succ k ih =>
    intro q hq
    simp only [rdE, List.mem_append, List.mem_singleton] at hq
    rcases hq with hq | rfl
    · exact ih q hq
    · exact rdT_size _ _
theorem rdA_size (zs : List Int) (st : Option Nat) (k : Nat) : ∀ q ∈ (rdA zs st k).1, q.1.size ≤ zs.length ∧ q.2.size ≤ zs.length := by
  induction k with
  | zero => intro q hq; simp [rdA] at hq
  | succ k ih =>
    intro q hq
    simp only [rdA, List.mem_append, List.mem_singleton] at hq
    rcases hq with hq | rfl
    · exact ih q hq
    · exact ⟨rdT_size _ _, rdT_size _ _⟩
theorem gD_small (zs : List Int) (h : zs.length ≤ 1048576) : InoSmall (gD zs) := by
  refine ⟨?_, ?_, ?_, ?_, ?_⟩
  · show (strZ (g4 zs).1).length ≤ _
    rw [strZ_len]
    have := rdT_size zs (g3 zs).2
    unfold g4; omega
  · show (gE zs).1.length ≤ _
    unfold gE; rw [rdE_len]; omega
  · show (gA zs).1.length ≤ _
    unfold gA; rw [rdA_len]; omega
  · intro q hq
    have := rdE_size zs _ _ q hq
    omega
  · intro q hq
    have := rdA_size zs _ _ q hq
    omega
/-- What the specification asks besides is told by InodeOk. -/
theorem gOk_counts {zs : List Int} (h : inoOk (gD zs) = true) : (g5 zs).1 = (gE zs).1.length ∧ (g6 zs).1 = (gA zs).1.length := by
  have hl := inoOk_lim h
  have h1 : (gE zs).1.length ≤ 10 := hl.ents
  have h2 : (gA zs).1.length ≤ 4 := hl.attrs
  unfold gE at h1 ⊢
  unfold gA at h2 ⊢
  rw [rdE_len] at h1 ⊢
  rw [rdA_len] at h2 ⊢
  omega

end Go.Proofs.Ytnllhpeddoaehaa
