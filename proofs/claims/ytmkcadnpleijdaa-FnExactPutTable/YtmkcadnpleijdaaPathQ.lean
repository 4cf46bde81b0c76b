/-
  What the paths of the document are, over the bytes of a text: names, what stands between the slashes, what a path is split into and joined of. Nothing of the program is named here.
-/
namespace Go.Proofs.Ytmkcadnpleijdaa
abbrev Str := List UInt8
/-- A sign that a name may have. -/
def sign (c : UInt8) : Bool := (decide (97 ≤ c.toNat) && decide (c.toNat ≤ 122)) || (decide (48 ≤ c.toNat) && decide (c.toNat ≤ 57)) || decide (c.toNat = 95) || decide (c.toNat = 45) || decide (c.toNat = 46)
def nameOk (l : Str) : Bool := decide (1 ≤ l.length) && decide (l.length ≤ 14) && decide (l ≠ [46]) && decide (l ≠ [46, 46]) && l.all sign
end Go.Proofs.Ytmkcadnpleijdaa

