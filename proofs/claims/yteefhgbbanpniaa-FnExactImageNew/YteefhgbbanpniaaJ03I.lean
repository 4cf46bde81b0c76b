/-
  Joined: SzIno, Six.
-/
import Derived.Test.YteefhgbbanpniaaJ01I
import Derived.ProofKit
import Derived.ChangeOld
import Derived.Below
namespace Go.Proofs.Yteefhgbbanpniaa
section
open Go.RowKit
/-- An inode whose lists and texts are small. -/
structure InoSmall (D : InoD) : Prop where
  data : D.data.length ≤ 1048576
  ents : D.ents.length ≤ 1048576
  attrs : D.attrs.length ≤ 1048576
  entsz : ∀ q ∈ D.ents, q.1.size ≤ 1048576
  attrsz : ∀ q ∈ D.attrs, q.1.size ≤ 1048576 ∧ q.2.size ≤ 1048576
end

section
open Go.RowKit
/-- The six cells of an inode in block B. -/
structure Six (W : World) (B : Nat) (v0 v1 v2 v3 v4 v5 : Value) : Prop where
  c0 : W.cell? ⟨B, 0, none⟩ = some v0
  c1 : W.cell? ⟨B, 1, none⟩ = some v1
  c2 : W.cell? ⟨B, 2, none⟩ = some v2
  c3 : W.cell? ⟨B, 3, none⟩ = some v3
  c4 : W.cell? ⟨B, 4, none⟩ = some v4
  c5 : W.cell? ⟨B, 5, none⟩ = some v5
theorem Blk.six {W : World} {B : Nat} {t : TypeId} {v0 v1 v2 v3 v4 v5 : Value} (h : Blk W B t #[v0, v1, v2, v3, v4, v5]) : Six W B v0 v1 v2 v3 v4 v5 :=
  ⟨h.cell 0, h.cell 1, h.cell 2, h.cell 3, h.cell 4, h.cell 5⟩
end
end Go.Proofs.Yteefhgbbanpniaa
