/-
  Joined: PutText, Text.
-/
import Derived.Test.YtjaicciilehlnaaJ05S
import Derived.Laws.BytesString
namespace Go.Proofs.Ytjaicciilehlnaa
section
open Go.RowKit
theorem encPos (x : Int) : 0 < (enc x).length := by
  unfold enc encGo
  split <;> simp
theorem encTs_one (s : ByteArray) : encTs [s] = encT s := by simp [encTs]
end

section
open Go.RowKit
theorem gnGo_next {zs : List Int} {p f k acc : Nat} (hf : f + k = 3) (h : (gnGo zs p f k acc).2.2 = true) : 1 ≤ (gnGo zs p f k acc).2.1 ∧ (gnGo zs p f k acc).2.1 ≤ zs.length ∧ (gnGo zs p f k acc).1 ≤ 1000000 := by
  induction f generalizing k acc with
  | zero => simp [gnGo] at h
  | succ f ih =>
    unfold gnGo at h ⊢
    split at h
    · rename_i h1
      rw [if_pos h1]
      split at h
      · rename_i h2
        rw [if_pos h2]
        exact ih (by omega) h
      · rename_i h2
        rw [if_neg h2]
        split at h
        · simp at h
        · rename_i h3
          rw [if_neg h3]
          simp only
          omega
    · simp at h
theorem gn_next {zs : List Int} {at' : Int} (h : (gn zs at').2.2 = true) : 1 ≤ (gn zs at').2.1 ∧ (gn zs at').2.1 ≤ zs.length ∧ (gn zs at').1 ≤ 1000000 := by
  unfold gn at h ⊢
  split at h
  · simp at h
  · rename_i h1
    rw [if_neg h1]
    exact gnGo_next rfl h
def str (l : List Int) : ByteArray := l.foldl (fun r n => r.push (UInt8.ofNat n.toNat)) ByteArray.empty
def gtOf (zs : List Int) (r : Nat × Nat × Bool) : ByteArray × Nat × Bool :=
  if r.2.2 = false ∨ zs.length < r.2.1 + r.1 then (ByteArray.empty, 0, false)
  else (str ((zs.drop r.2.1).take r.1), r.2.1 + r.1, true)
end
end Go.Proofs.Ytjaicciilehlnaa
