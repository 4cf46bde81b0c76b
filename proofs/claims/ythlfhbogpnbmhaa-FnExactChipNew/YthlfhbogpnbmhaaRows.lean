/-
  No cell of these rows narrows 'for every input' (looked for: loops, veiled, ifaces, maps, wideKeys, modest, calm, conditions, laid).
  DERIVED. THE GIVEN ROWS OF THIS SEAT. 6 by the template 'for every input the law returns true; each argument reads behind the call as it read before'; 0 by the template 'total and deterministic' (their statements: YthlfhbogpnbmhaaTotals.lean).
  GIVEN WITH THE SEED: the statements are not yours to turn. If you find one false, say at which input.
  Laid BY PROGRAM, IN A SANDBOX (cutbox-rows.mjs): the forced cells as the released guide's own fill.sh prints them over the translation cc55aa0a0d5fc3f2… (all of the seat's roots in one cut). By AI agents, Wed Nov 11 2026. No macro, syntax, notation, axiom, sorry.
-/
import Derived.Test.YthlfhbogpnbmhaaChecked
import GoSem.Claim
import GoSem.ClaimJoined
import GoSem.ClaimMapViews
import Derived.JoinedTies
import Derived.KernelRfl
namespace Go.Proofs.Ythlfhbogpnbmhaa
/- THE CELL 'sum', in the pinned program and in every row, IS THE sha256 OF THE DUMP (.gsa) THAT YthlfhbogpnbmhaaProg.lean LOADS. Nothing in Lean hashes anything: it is a label: what it is worth is what the hold of that sum in a sandbox is worth. -/
noncomputable def Try.pinned : Pinned := { name := "ythlfhbogpnbmhaa", sum := "cc55aa0a0d5fc3f2a14d0cc2a8b74693d176cc1585384a03f04950899359fa1c", checked := Try.checked }
namespace Rows
def none {H : Type} : Left H := { results := [], args := [] }

/-- 'laws.FnExactChipNew': WHATEVER THE INPUT: true; the input reads as it did. -/
def fnExactChipNewSpec : ChangeSpec := { name := "fnExactChipNew", fn := fun _ => fun
  | [d] => { results := [.lit (.bool true)], args := [d] }
  | _ => none }
def fnExactChipNewRow : OpenClaim := { program := "ythlfhbogpnbmhaa", sum := "cc55aa0a0d5fc3f2a14d0cc2a8b74693d176cc1585384a03f04950899359fa1c", func := "loop.example/g00285/laws.FnExactChipNew", spec := "fnExactChipNew", apart := false }
def FnExactChipNewSaid : Prop := fnExactChipNewRow.holds Try.pinned (OpenSpec.ofChange fnExactChipNewSpec)

/-- ITS FALSE NEIGHBOUR: 'it returns false'. Refute it at one input. -/
def fnExactChipNewWrong : ChangeSpec := { name := "fnExactChipNew", fn := fun _ => fun
  | [d] => { results := [.lit (.bool false)], args := [d] }
  | _ => none }
def FnExactChipNewWrongFalsely : Prop := fnExactChipNewRow.holds Try.pinned (OpenSpec.ofChange fnExactChipNewWrong)

/-- 'laws.FnExactChipOk': WHATEVER THE INPUT: true; the input reads as it did. -/
def fnExactChipOkSpec : ChangeSpec := { name := "fnExactChipOk", fn := fun _ => fun
  | [d] => { results := [.lit (.bool true)], args := [d] }
  | _ => none }
def fnExactChipOkRow : OpenClaim := { program := "ythlfhbogpnbmhaa", sum := "cc55aa0a0d5fc3f2a14d0cc2a8b74693d176cc1585384a03f04950899359fa1c", func := "loop.example/g00285/laws.FnExactChipOk", spec := "fnExactChipOk", apart := false }
def FnExactChipOkSaid : Prop := fnExactChipOkRow.holds Try.pinned (OpenSpec.ofChange fnExactChipOkSpec)

/-- ITS FALSE NEIGHBOUR: 'it returns false'. Refute it at one input. -/
def fnExactChipOkWrong : ChangeSpec := { name := "fnExactChipOk", fn := fun _ => fun
  | [d] => { results := [.lit (.bool false)], args := [d] }
  | _ => none }
def FnExactChipOkWrongFalsely : Prop := fnExactChipOkRow.holds Try.pinned (OpenSpec.ofChange fnExactChipOkWrong)

/-- 'laws.FnExactNextPage': WHATEVER THE INPUT: true; the input reads as it did. -/
def fnExactNextPageSpec : ChangeSpec := { name := "fnExactNextPage", fn := fun _ => fun
  | [d1, d2] => { results := [.lit (.bool true)], args := [d1, d2] }
  | _ => none }
def fnExactNextPageRow : OpenClaim := { program := "ythlfhbogpnbmhaa", sum := "cc55aa0a0d5fc3f2a14d0cc2a8b74693d176cc1585384a03f04950899359fa1c", func := "loop.example/g00285/laws.FnExactNextPage", spec := "fnExactNextPage", apart := false }
def FnExactNextPageSaid : Prop := fnExactNextPageRow.holds Try.pinned (OpenSpec.ofChange fnExactNextPageSpec)

/-- ITS FALSE NEIGHBOUR: 'it returns false'. Refute it at one input. -/
def fnExactNextPageWrong : ChangeSpec := { name := "fnExactNextPage", fn := fun _ => fun
  | [d1, d2] => { results := [.lit (.bool false)], args := [d1, d2] }
  | _ => none }
def FnExactNextPageWrongFalsely : Prop := fnExactNextPageRow.holds Try.pinned (OpenSpec.ofChange fnExactNextPageWrong)

/-- 'laws.FnExactReadPage': WHATEVER THE INPUT: true; the input reads as it did. -/
def fnExactReadPageSpec : ChangeSpec := { name := "fnExactReadPage", fn := fun _ => fun
  | [d1, d2, d3] => { results := [.lit (.bool true)], args := [d1, d2, d3] }
  | _ => none }
def fnExactReadPageRow : OpenClaim := { program := "ythlfhbogpnbmhaa", sum := "cc55aa0a0d5fc3f2a14d0cc2a8b74693d176cc1585384a03f04950899359fa1c", func := "loop.example/g00285/laws.FnExactReadPage", spec := "fnExactReadPage", apart := false }
def FnExactReadPageSaid : Prop := fnExactReadPageRow.holds Try.pinned (OpenSpec.ofChange fnExactReadPageSpec)

/-- ITS FALSE NEIGHBOUR: 'it returns false'. Refute it at one input. -/
def fnExactReadPageWrong : ChangeSpec := { name := "fnExactReadPage", fn := fun _ => fun
  | [d1, d2, d3] => { results := [.lit (.bool false)], args := [d1, d2, d3] }
  | _ => none }
def FnExactReadPageWrongFalsely : Prop := fnExactReadPageRow.holds Try.pinned (OpenSpec.ofChange fnExactReadPageWrong)

/-- 'laws.FnExactWornOf': WHATEVER THE INPUT: true; the input reads as it did. -/
def fnExactWornOfSpec : ChangeSpec := { name := "fnExactWornOf", fn := fun _ => fun
  | [d] => { results := [.lit (.bool true)], args := [d] }
  | _ => none }
def fnExactWornOfRow : OpenClaim := { program := "ythlfhbogpnbmhaa", sum := "cc55aa0a0d5fc3f2a14d0cc2a8b74693d176cc1585384a03f04950899359fa1c", func := "loop.example/g00285/laws.FnExactWornOf", spec := "fnExactWornOf", apart := false }
def FnExactWornOfSaid : Prop := fnExactWornOfRow.holds Try.pinned (OpenSpec.ofChange fnExactWornOfSpec)

/-- ITS FALSE NEIGHBOUR: 'it returns false'. Refute it at one input. -/
def fnExactWornOfWrong : ChangeSpec := { name := "fnExactWornOf", fn := fun _ => fun
  | [d] => { results := [.lit (.bool false)], args := [d] }
  | _ => none }
def FnExactWornOfWrongFalsely : Prop := fnExactWornOfRow.holds Try.pinned (OpenSpec.ofChange fnExactWornOfWrong)

/-- 'laws.FnNewChips': WHATEVER THE INPUT: true; the input reads as it did. -/
def fnNewChipsSpec : ChangeSpec := { name := "fnNewChips", fn := fun _ => fun
  | [d] => { results := [.lit (.bool true)], args := [d] }
  | _ => none }
def fnNewChipsRow : OpenClaim := { program := "ythlfhbogpnbmhaa", sum := "cc55aa0a0d5fc3f2a14d0cc2a8b74693d176cc1585384a03f04950899359fa1c", func := "loop.example/g00285/laws.FnNewChips", spec := "fnNewChips", apart := false }
def FnNewChipsSaid : Prop := fnNewChipsRow.holds Try.pinned (OpenSpec.ofChange fnNewChipsSpec)

/-- ITS FALSE NEIGHBOUR: 'it returns false'. Refute it at one input. -/
def fnNewChipsWrong : ChangeSpec := { name := "fnNewChips", fn := fun _ => fun
  | [d] => { results := [.lit (.bool false)], args := [d] }
  | _ => none }
def FnNewChipsWrongFalsely : Prop := fnNewChipsRow.holds Try.pinned (OpenSpec.ofChange fnNewChipsWrong)

/- THE SECOND FORM. 'bulk': how many values and letters a reading holds, each counted each time it is reached (what is shared counts as often as it is met; a slice's spare places count too). A statement '..UptoSaid' is the law's where the arguments, and the package variables that the reading takes, are together of bulk at most 1048576: NARROWER than '..Said'. Prove '..Said' where nothing that the law and all that it calls make is longer than what came in: it says more and counts as full. Else prove '..UptoSaid'. A law counts once. -/
mutual
def uptoBulk {H : Type} : DataW H → Nat
  | .lit (.string bytes) => bytes.length + 1
  | .lit _ => 1
  | .nil => 1
  | .ptr d => uptoBulk d + 1
  | .slice elems spare => uptoBulkAll elems + uptoBulkAll spare + 1
  | .agg parts => uptoBulkAll parts + 1
  | .iface _ d => uptoBulk d + 1
  | .map entries => uptoBulkEntries entries + 1
  | .held _ => 1
def uptoBulkAll {H : Type} : List (DataW H) → Nat
  | [] => 0
  | d :: r => uptoBulk d + uptoBulkAll r
def uptoBulkEntries {H : Type} : List (Lit × DataW H) → Nat
  | [] => 0
  | x :: r => uptoBulkEntry x + uptoBulkEntries r
def uptoBulkEntry {H : Type} : Lit × DataW H → Nat
  | (.string bytes, d) => bytes.length + uptoBulk d + 1
  | (_, d) => uptoBulk d + 1
 end
def uptoSmall : (H : Type) → List (DataW H) → Bool := fun _ ds => decide (uptoBulkAll ds ≤ 1048576)
def OpenSpec.upto (s : _root_.Go.ChangeSpec) : _root_.Go.OpenSpec := { _root_.Go.OpenSpec.ofChange s with cond := some uptoSmall }

/-- 'laws.FnExactChipNew', WHERE WHAT IT READS IS OF BULK AT MOST 1048576: true; the input reads as it did. -/
def fnExactChipNewUptoRow : OpenClaim := { program := "ythlfhbogpnbmhaa", sum := "cc55aa0a0d5fc3f2a14d0cc2a8b74693d176cc1585384a03f04950899359fa1c", func := "loop.example/g00285/laws.FnExactChipNew", spec := "fnExactChipNew", apart := false, narrowed := true }
def FnExactChipNewUptoSaid : Prop := fnExactChipNewUptoRow.holds Try.pinned (OpenSpec.upto fnExactChipNewSpec)

/-- 'laws.FnExactChipOk', WHERE WHAT IT READS IS OF BULK AT MOST 1048576: true; the input reads as it did. -/
def fnExactChipOkUptoRow : OpenClaim := { program := "ythlfhbogpnbmhaa", sum := "cc55aa0a0d5fc3f2a14d0cc2a8b74693d176cc1585384a03f04950899359fa1c", func := "loop.example/g00285/laws.FnExactChipOk", spec := "fnExactChipOk", apart := false, narrowed := true }
def FnExactChipOkUptoSaid : Prop := fnExactChipOkUptoRow.holds Try.pinned (OpenSpec.upto fnExactChipOkSpec)

/-- 'laws.FnExactNextPage', WHERE WHAT IT READS IS OF BULK AT MOST 1048576: true; the input reads as it did. -/
def fnExactNextPageUptoRow : OpenClaim := { program := "ythlfhbogpnbmhaa", sum := "cc55aa0a0d5fc3f2a14d0cc2a8b74693d176cc1585384a03f04950899359fa1c", func := "loop.example/g00285/laws.FnExactNextPage", spec := "fnExactNextPage", apart := false, narrowed := true }
def FnExactNextPageUptoSaid : Prop := fnExactNextPageUptoRow.holds Try.pinned (OpenSpec.upto fnExactNextPageSpec)

/-- 'laws.FnExactReadPage', WHERE WHAT IT READS IS OF BULK AT MOST 1048576: true; the input reads as it did. -/
def fnExactReadPageUptoRow : OpenClaim := { program := "ythlfhbogpnbmhaa", sum := "cc55aa0a0d5fc3f2a14d0cc2a8b74693d176cc1585384a03f04950899359fa1c", func := "loop.example/g00285/laws.FnExactReadPage", spec := "fnExactReadPage", apart := false, narrowed := true }
def FnExactReadPageUptoSaid : Prop := fnExactReadPageUptoRow.holds Try.pinned (OpenSpec.upto fnExactReadPageSpec)

/-- 'laws.FnExactWornOf', WHERE WHAT IT READS IS OF BULK AT MOST 1048576: true; the input reads as it did. -/
def fnExactWornOfUptoRow : OpenClaim := { program := "ythlfhbogpnbmhaa", sum := "cc55aa0a0d5fc3f2a14d0cc2a8b74693d176cc1585384a03f04950899359fa1c", func := "loop.example/g00285/laws.FnExactWornOf", spec := "fnExactWornOf", apart := false, narrowed := true }
def FnExactWornOfUptoSaid : Prop := fnExactWornOfUptoRow.holds Try.pinned (OpenSpec.upto fnExactWornOfSpec)

/-- 'laws.FnNewChips', WHERE WHAT IT READS IS OF BULK AT MOST 1048576: true; the input reads as it did. -/
def fnNewChipsUptoRow : OpenClaim := { program := "ythlfhbogpnbmhaa", sum := "cc55aa0a0d5fc3f2a14d0cc2a8b74693d176cc1585384a03f04950899359fa1c", func := "loop.example/g00285/laws.FnNewChips", spec := "fnNewChips", apart := false, narrowed := true }
def FnNewChipsUptoSaid : Prop := fnNewChipsUptoRow.holds Try.pinned (OpenSpec.upto fnNewChipsSpec)

end Rows
end Go.Proofs.Ythlfhbogpnbmhaa
