/-
  NARROWER THAN 'FOR EVERY INPUT', by the rows' own cells (each row's printed sentence says how): FnExactDevProgram: laid · FnExactDevErase: laid · FnDevs: laid · FnDevErased: laid · FnPowers: laid.
  DERIVED. THE GIVEN ROWS OF THIS SEAT. 5 by the template 'for every input the law returns true; each argument reads behind the call as it read before'; 0 by the template 'total and deterministic' (their statements: YtkhgafmhbibikaaGreatDoorTotals.lean).
  GIVEN WITH THE SEED: the statements are not yours to turn. If you find one false, say at which input.
  Laid BY PROGRAM, IN A SANDBOX (cutbox-rows.mjs): the forced cells as the released guide's own fill.sh prints them over the translation fdfefb43b8533fe2… (all of the seat's roots in one cut). By AI agents, Wed Nov 11 2026. No macro, syntax, notation, axiom, sorry.
-/
import Derived.Test.YtkhgafmhbibikaaGreatDoorChecked
import GoSem.Claim
import GoSem.ClaimJoined
import GoSem.ClaimMapViews
import Derived.JoinedTies
import Derived.KernelRfl
namespace Go.Proofs.YtkhgafmhbibikaaGreatDoor
/- THE CELL 'sum', in the pinned program and in every row, IS THE sha256 OF THE DUMP (.gsa) THAT YtkhgafmhbibikaaGreatDoorProg.lean LOADS. Nothing in Lean hashes anything: it is a label: what it is worth is what the hold of that sum in a sandbox is worth. -/
noncomputable def Tryz.pinned : Pinned := { name := "ytkhgafmhbibikaagreatdoor", sum := "fdfefb43b8533fe225dd3d7df07081d8356efcea49e8794e3750829e57097525", checked := Tryz.checked }
namespace Rows
def none {H : Type} : Left H := { results := [], args := [] }

/- WHAT THE LISTED PACKAGE-LEVEL VARIABLES READ AS WHEN THE CALL BEGINS. Each datum BY PROGRAM (the guide's laid-datum.mjs) off the statement by which the dump's own 'gosem.cut.vars' lays the variable. In a bare row this is a premise. The card (YtkhgafmhbibikaaGreatDoorCards.lean) ties it to the program's text. -/
def laid_errors_errorType {H : Type} : DataW H := .iface "internal/reflectlite.rtype" (.agg [.ptr (.lit (.string [101, 114, 114, 111, 114]))])

/-- 'laws.FnExactDevProgram': WHATEVER THE INPUT: true; the input reads as it did. -/
def fnExactDevProgramSpec : ChangeSpec := { name := "fnExactDevProgram", fn := fun _ => fun
  | [d1, d2, d3] => { results := [.lit (.bool true)], args := [d1, d2, d3] }
  | _ => none }
def fnExactDevProgramRow : OpenClaim := { program := "ytkhgafmhbibikaagreatdoor", sum := "fdfefb43b8533fe225dd3d7df07081d8356efcea49e8794e3750829e57097525", func := "loop.example/g00285/laws.FnExactDevProgram", spec := "fnExactDevProgram", inPlace := ["internal/reflectlite.ValueOf", "(internal/reflectlite.Value).Type", "(internal/reflectlite.Value).IsNil", "internal/reflectlite.TypeOf", "(internal/reflectlite.Value).Elem", "(internal/reflectlite.Value).Set"], unfollowed := true, recurses := true, named := ["errors.errorType"], apart := false, laid := [("errors.errorType", laid_errors_errorType)] }
def FnExactDevProgramSaid : Prop := fnExactDevProgramRow.holds Tryz.pinned (OpenSpec.ofChange fnExactDevProgramSpec)

/-- ITS FALSE NEIGHBOUR: 'it returns false'. Refute it at one input. -/
def fnExactDevProgramWrong : ChangeSpec := { name := "fnExactDevProgram", fn := fun _ => fun
  | [d1, d2, d3] => { results := [.lit (.bool false)], args := [d1, d2, d3] }
  | _ => none }
def FnExactDevProgramWrongFalsely : Prop := fnExactDevProgramRow.holds Tryz.pinned (OpenSpec.ofChange fnExactDevProgramWrong)

/-- 'laws.FnExactDevErase': WHATEVER THE INPUT: true; the input reads as it did. -/
def fnExactDevEraseSpec : ChangeSpec := { name := "fnExactDevErase", fn := fun _ => fun
  | [d1, d2] => { results := [.lit (.bool true)], args := [d1, d2] }
  | _ => none }
def fnExactDevEraseRow : OpenClaim := { program := "ytkhgafmhbibikaagreatdoor", sum := "fdfefb43b8533fe225dd3d7df07081d8356efcea49e8794e3750829e57097525", func := "loop.example/g00285/laws.FnExactDevErase", spec := "fnExactDevErase", inPlace := ["internal/reflectlite.ValueOf", "(internal/reflectlite.Value).Type", "(internal/reflectlite.Value).IsNil", "internal/reflectlite.TypeOf", "(internal/reflectlite.Value).Elem", "(internal/reflectlite.Value).Set"], unfollowed := true, recurses := true, named := ["errors.errorType"], apart := false, laid := [("errors.errorType", laid_errors_errorType)] }
def FnExactDevEraseSaid : Prop := fnExactDevEraseRow.holds Tryz.pinned (OpenSpec.ofChange fnExactDevEraseSpec)

/-- ITS FALSE NEIGHBOUR: 'it returns false'. Refute it at one input. -/
def fnExactDevEraseWrong : ChangeSpec := { name := "fnExactDevErase", fn := fun _ => fun
  | [d1, d2] => { results := [.lit (.bool false)], args := [d1, d2] }
  | _ => none }
def FnExactDevEraseWrongFalsely : Prop := fnExactDevEraseRow.holds Tryz.pinned (OpenSpec.ofChange fnExactDevEraseWrong)

/-- 'laws.FnDevs': WHATEVER THE INPUT: true; the input reads as it did. -/
def fnDevsSpec : ChangeSpec := { name := "fnDevs", fn := fun _ => fun
  | [d] => { results := [.lit (.bool true)], args := [d] }
  | _ => none }
def fnDevsRow : OpenClaim := { program := "ytkhgafmhbibikaagreatdoor", sum := "fdfefb43b8533fe225dd3d7df07081d8356efcea49e8794e3750829e57097525", func := "loop.example/g00285/laws.FnDevs", spec := "fnDevs", inPlace := ["internal/reflectlite.ValueOf", "(internal/reflectlite.Value).Type", "(internal/reflectlite.Value).IsNil", "internal/reflectlite.TypeOf", "(internal/reflectlite.Value).Elem", "(internal/reflectlite.Value).Set"], unfollowed := true, recurses := true, named := ["errors.errorType"], apart := false, laid := [("errors.errorType", laid_errors_errorType)] }
def FnDevsSaid : Prop := fnDevsRow.holds Tryz.pinned (OpenSpec.ofChange fnDevsSpec)

/-- ITS FALSE NEIGHBOUR: 'it returns false'. Refute it at one input. -/
def fnDevsWrong : ChangeSpec := { name := "fnDevs", fn := fun _ => fun
  | [d] => { results := [.lit (.bool false)], args := [d] }
  | _ => none }
def FnDevsWrongFalsely : Prop := fnDevsRow.holds Tryz.pinned (OpenSpec.ofChange fnDevsWrong)

/-- 'laws.FnDevErased': WHATEVER THE INPUT: true; the input reads as it did. -/
def fnDevErasedSpec : ChangeSpec := { name := "fnDevErased", fn := fun _ => fun
  | [d] => { results := [.lit (.bool true)], args := [d] }
  | _ => none }
def fnDevErasedRow : OpenClaim := { program := "ytkhgafmhbibikaagreatdoor", sum := "fdfefb43b8533fe225dd3d7df07081d8356efcea49e8794e3750829e57097525", func := "loop.example/g00285/laws.FnDevErased", spec := "fnDevErased", inPlace := ["internal/reflectlite.ValueOf", "(internal/reflectlite.Value).Type", "(internal/reflectlite.Value).IsNil", "internal/reflectlite.TypeOf", "(internal/reflectlite.Value).Elem", "(internal/reflectlite.Value).Set"], unfollowed := true, recurses := true, named := ["errors.errorType"], apart := false, laid := [("errors.errorType", laid_errors_errorType)] }
def FnDevErasedSaid : Prop := fnDevErasedRow.holds Tryz.pinned (OpenSpec.ofChange fnDevErasedSpec)

/-- ITS FALSE NEIGHBOUR: 'it returns false'. Refute it at one input. -/
def fnDevErasedWrong : ChangeSpec := { name := "fnDevErased", fn := fun _ => fun
  | [d] => { results := [.lit (.bool false)], args := [d] }
  | _ => none }
def FnDevErasedWrongFalsely : Prop := fnDevErasedRow.holds Tryz.pinned (OpenSpec.ofChange fnDevErasedWrong)

/-- 'laws.FnPowers': WHATEVER THE INPUT: true; the input reads as it did. -/
def fnPowersSpec : ChangeSpec := { name := "fnPowers", fn := fun _ => fun
  | [d] => { results := [.lit (.bool true)], args := [d] }
  | _ => none }
def fnPowersRow : OpenClaim := { program := "ytkhgafmhbibikaagreatdoor", sum := "fdfefb43b8533fe225dd3d7df07081d8356efcea49e8794e3750829e57097525", func := "loop.example/g00285/laws.FnPowers", spec := "fnPowers", inPlace := ["internal/reflectlite.ValueOf", "(internal/reflectlite.Value).Type", "(internal/reflectlite.Value).IsNil", "internal/reflectlite.TypeOf", "(internal/reflectlite.Value).Elem", "(internal/reflectlite.Value).Set"], unfollowed := true, recurses := true, named := ["errors.errorType"], apart := false, laid := [("errors.errorType", laid_errors_errorType)] }
def FnPowersSaid : Prop := fnPowersRow.holds Tryz.pinned (OpenSpec.ofChange fnPowersSpec)

/-- ITS FALSE NEIGHBOUR: 'it returns false'. Refute it at one input. -/
def fnPowersWrong : ChangeSpec := { name := "fnPowers", fn := fun _ => fun
  | [d] => { results := [.lit (.bool false)], args := [d] }
  | _ => none }
def FnPowersWrongFalsely : Prop := fnPowersRow.holds Tryz.pinned (OpenSpec.ofChange fnPowersWrong)

/- THE SECOND FORM. 'bulk': how many values and letters a reading holds, each counted each time it is reached (what is shared counts as often as it is met; a slice's spare places count too). A statement '..UptoSaid' is the law's where the arguments, and the package variables that the reading takes, are together of bulk at most 1048576: NARROWER than '..Said'. Prove '..Said' where nothing that the law and all that it calls make is longer than what came in: it says more and counts as full. Else prove '..UptoSaid'. A law counts once. -/
mutual
def uptoBulk {H : Type} : DataW H → Nat
  | .lit (.string bytes) => bytes.length + 1
  | .lit _ => 1
  | .nil => 1
  | .ptr d => uptoBulk d + 1
  | .slice elems spare => uptoBulkAll elems + uptoBulkAll spare + 1
  | .agg parts => uptoBulkAll parts + 1
  | .iface _ d => uptoBulk d + 1
  | .map entries => uptoBulkEntries entries + 1
  | .held _ => 1
def uptoBulkAll {H : Type} : List (DataW H) → Nat
  | [] => 0
  | d :: r => uptoBulk d + uptoBulkAll r
def uptoBulkEntries {H : Type} : List (Lit × DataW H) → Nat
  | [] => 0
  | x :: r => uptoBulkEntry x + uptoBulkEntries r
def uptoBulkEntry {H : Type} : Lit × DataW H → Nat
  | (.string bytes, d) => bytes.length + uptoBulk d + 1
  | (_, d) => uptoBulk d + 1
 end
def uptoSmall : (H : Type) → List (DataW H) → Bool := fun _ ds => decide (uptoBulkAll ds ≤ 1048576)
def OpenSpec.upto (s : _root_.Go.ChangeSpec) : _root_.Go.OpenSpec := { _root_.Go.OpenSpec.ofChange s with cond := some uptoSmall }

/-- 'laws.FnExactDevProgram', WHERE WHAT IT READS IS OF BULK AT MOST 1048576: true; the input reads as it did. -/
def fnExactDevProgramUptoRow : OpenClaim := { program := "ytkhgafmhbibikaagreatdoor", sum := "fdfefb43b8533fe225dd3d7df07081d8356efcea49e8794e3750829e57097525", func := "loop.example/g00285/laws.FnExactDevProgram", spec := "fnExactDevProgram", inPlace := ["internal/reflectlite.ValueOf", "(internal/reflectlite.Value).Type", "(internal/reflectlite.Value).IsNil", "internal/reflectlite.TypeOf", "(internal/reflectlite.Value).Elem", "(internal/reflectlite.Value).Set"], unfollowed := true, recurses := true, named := ["errors.errorType"], apart := false, laid := [("errors.errorType", laid_errors_errorType)], narrowed := true }
def FnExactDevProgramUptoSaid : Prop := fnExactDevProgramUptoRow.holds Tryz.pinned (OpenSpec.upto fnExactDevProgramSpec)

/-- 'laws.FnExactDevErase', WHERE WHAT IT READS IS OF BULK AT MOST 1048576: true; the input reads as it did. -/
def fnExactDevEraseUptoRow : OpenClaim := { program := "ytkhgafmhbibikaagreatdoor", sum := "fdfefb43b8533fe225dd3d7df07081d8356efcea49e8794e3750829e57097525", func := "loop.example/g00285/laws.FnExactDevErase", spec := "fnExactDevErase", inPlace := ["internal/reflectlite.ValueOf", "(internal/reflectlite.Value).Type", "(internal/reflectlite.Value).IsNil", "internal/reflectlite.TypeOf", "(internal/reflectlite.Value).Elem", "(internal/reflectlite.Value).Set"], unfollowed := true, recurses := true, named := ["errors.errorType"], apart := false, laid := [("errors.errorType", laid_errors_errorType)], narrowed := true }
def FnExactDevEraseUptoSaid : Prop := fnExactDevEraseUptoRow.holds Tryz.pinned (OpenSpec.upto fnExactDevEraseSpec)

/-- 'laws.FnDevs', WHERE WHAT IT READS IS OF BULK AT MOST 1048576: true; the input reads as it did. -/
def fnDevsUptoRow : OpenClaim := { program := "ytkhgafmhbibikaagreatdoor", sum := "fdfefb43b8533fe225dd3d7df07081d8356efcea49e8794e3750829e57097525", func := "loop.example/g00285/laws.FnDevs", spec := "fnDevs", inPlace := ["internal/reflectlite.ValueOf", "(internal/reflectlite.Value).Type", "(internal/reflectlite.Value).IsNil", "internal/reflectlite.TypeOf", "(internal/reflectlite.Value).Elem", "(internal/reflectlite.Value).Set"], unfollowed := true, recurses := true, named := ["errors.errorType"], apart := false, laid := [("errors.errorType", laid_errors_errorType)], narrowed := true }
def FnDevsUptoSaid : Prop := fnDevsUptoRow.holds Tryz.pinned (OpenSpec.upto fnDevsSpec)

/-- 'laws.FnDevErased', WHERE WHAT IT READS IS OF BULK AT MOST 1048576: true; the input reads as it did. -/
def fnDevErasedUptoRow : OpenClaim := { program := "ytkhgafmhbibikaagreatdoor", sum := "fdfefb43b8533fe225dd3d7df07081d8356efcea49e8794e3750829e57097525", func := "loop.example/g00285/laws.FnDevErased", spec := "fnDevErased", inPlace := ["internal/reflectlite.ValueOf", "(internal/reflectlite.Value).Type", "(internal/reflectlite.Value).IsNil", "internal/reflectlite.TypeOf", "(internal/reflectlite.Value).Elem", "(internal/reflectlite.Value).Set"], unfollowed := true, recurses := true, named := ["errors.errorType"], apart := false, laid := [("errors.errorType", laid_errors_errorType)], narrowed := true }
def FnDevErasedUptoSaid : Prop := fnDevErasedUptoRow.holds Tryz.pinned (OpenSpec.upto fnDevErasedSpec)

/-- 'laws.FnPowers', WHERE WHAT IT READS IS OF BULK AT MOST 1048576: true; the input reads as it did. -/
def fnPowersUptoRow : OpenClaim := { program := "ytkhgafmhbibikaagreatdoor", sum := "fdfefb43b8533fe225dd3d7df07081d8356efcea49e8794e3750829e57097525", func := "loop.example/g00285/laws.FnPowers", spec := "fnPowers", inPlace := ["internal/reflectlite.ValueOf", "(internal/reflectlite.Value).Type", "(internal/reflectlite.Value).IsNil", "internal/reflectlite.TypeOf", "(internal/reflectlite.Value).Elem", "(internal/reflectlite.Value).Set"], unfollowed := true, recurses := true, named := ["errors.errorType"], apart := false, laid := [("errors.errorType", laid_errors_errorType)], narrowed := true }
def FnPowersUptoSaid : Prop := fnPowersUptoRow.holds Tryz.pinned (OpenSpec.upto fnPowersSpec)

end Rows
end Go.Proofs.YtkhgafmhbibikaaGreatDoor
