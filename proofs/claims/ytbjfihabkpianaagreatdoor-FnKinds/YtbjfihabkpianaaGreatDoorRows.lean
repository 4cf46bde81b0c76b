/-
  NARROWER THAN 'FOR EVERY INPUT', by the rows' own cells (each row's printed sentence says how): FnExactNewVol: laid · FnExactSnapVol: laid · FnExactCloneVol: laid · FnExactDropVol: laid · FnExactSetLimit: laid · FnHoles: laid · FnKinds: laid · FnBigFile: laid · FnLinkCount: laid · FnFullAttrs: laid · FnMovedTree: laid · FnRootStays: laid.
  DERIVED. THE GIVEN ROWS OF THIS SEAT. 12 by the template 'for every input the law returns true; each argument reads behind the call as it read before'; 0 by the template 'total and deterministic' (their statements: YtbjfihabkpianaaGreatDoorTotals.lean).
  GIVEN WITH THE SEED: the statements are not yours to turn. If you find one false, say at which input.
  Laid BY PROGRAM, IN A SANDBOX (cutbox-rows.mjs): the forced cells as the released guide's own fill.sh prints them over the translation d582345bc2959411… (all of the seat's roots in one cut). By AI agents, Wed Nov 11 2026. No macro, syntax, notation, axiom, sorry.
-/
import Derived.Test.YtbjfihabkpianaaGreatDoorChecked
import GoSem.Claim
import GoSem.ClaimJoined
import GoSem.ClaimMapViews
import Derived.JoinedTies
import Derived.KernelRfl
namespace Go.Proofs.YtbjfihabkpianaaGreatDoor
/- THE CELL 'sum', in the pinned program and in every row, IS THE sha256 OF THE DUMP (.gsa) THAT YtbjfihabkpianaaGreatDoorProg.lean LOADS. Nothing in Lean hashes anything: it is a label: what it is worth is what the hold of that sum in a sandbox is worth. -/
noncomputable def Tryz.pinned : Pinned := { name := "ytbjfihabkpianaagreatdoor", sum := "d582345bc2959411d1d665e93032146efbcc878949b02a7471c9e5cf0802a1f7", checked := Tryz.checked }
namespace Rows
def none {H : Type} : Left H := { results := [], args := [] }

/- WHAT THE LISTED PACKAGE-LEVEL VARIABLES READ AS WHEN THE CALL BEGINS. Each datum BY PROGRAM (the guide's laid-datum.mjs) off the statement by which the dump's own 'gosem.cut.vars' lays the variable. In a bare row this is a premise. The card (YtbjfihabkpianaaGreatDoorCards.lean) ties it to the program's text. -/
def laid_errors_errorType {H : Type} : DataW H := .iface "internal/reflectlite.rtype" (.agg [.ptr (.lit (.string [101, 114, 114, 111, 114]))])

/-- 'laws.FnExactNewVol': WHATEVER THE INPUT: true; the input reads as it did. -/
def fnExactNewVolSpec : ChangeSpec := { name := "fnExactNewVol", fn := fun _ => fun
  | [d1, d2, d3] => { results := [.lit (.bool true)], args := [d1, d2, d3] }
  | _ => none }
def fnExactNewVolRow : OpenClaim := { program := "ytbjfihabkpianaagreatdoor", sum := "d582345bc2959411d1d665e93032146efbcc878949b02a7471c9e5cf0802a1f7", func := "loop.example/g00285/laws.FnExactNewVol", spec := "fnExactNewVol", inPlace := ["internal/reflectlite.ValueOf", "(internal/reflectlite.Value).Type", "(internal/reflectlite.Value).IsNil", "internal/reflectlite.TypeOf", "(internal/reflectlite.Value).Elem", "(internal/reflectlite.Value).Set"], unfollowed := true, recurses := true, named := ["errors.errorType"], apart := false, laid := [("errors.errorType", laid_errors_errorType)] }
def FnExactNewVolSaid : Prop := fnExactNewVolRow.holds Tryz.pinned (OpenSpec.ofChange fnExactNewVolSpec)

/-- ITS FALSE NEIGHBOUR: 'it returns false'. Refute it at one input. -/
def fnExactNewVolWrong : ChangeSpec := { name := "fnExactNewVol", fn := fun _ => fun
  | [d1, d2, d3] => { results := [.lit (.bool false)], args := [d1, d2, d3] }
  | _ => none }
def FnExactNewVolWrongFalsely : Prop := fnExactNewVolRow.holds Tryz.pinned (OpenSpec.ofChange fnExactNewVolWrong)

/-- 'laws.FnExactSnapVol': WHATEVER THE INPUT: true; the input reads as it did. -/
def fnExactSnapVolSpec : ChangeSpec := { name := "fnExactSnapVol", fn := fun _ => fun
  | [d1, d2, d3] => { results := [.lit (.bool true)], args := [d1, d2, d3] }
  | _ => none }
def fnExactSnapVolRow : OpenClaim := { program := "ytbjfihabkpianaagreatdoor", sum := "d582345bc2959411d1d665e93032146efbcc878949b02a7471c9e5cf0802a1f7", func := "loop.example/g00285/laws.FnExactSnapVol", spec := "fnExactSnapVol", inPlace := ["internal/reflectlite.ValueOf", "(internal/reflectlite.Value).Type", "(internal/reflectlite.Value).IsNil", "internal/reflectlite.TypeOf", "(internal/reflectlite.Value).Elem", "(internal/reflectlite.Value).Set"], unfollowed := true, recurses := true, named := ["errors.errorType"], apart := false, laid := [("errors.errorType", laid_errors_errorType)] }
def FnExactSnapVolSaid : Prop := fnExactSnapVolRow.holds Tryz.pinned (OpenSpec.ofChange fnExactSnapVolSpec)

/-- ITS FALSE NEIGHBOUR: 'it returns false'. Refute it at one input. -/
def fnExactSnapVolWrong : ChangeSpec := { name := "fnExactSnapVol", fn := fun _ => fun
  | [d1, d2, d3] => { results := [.lit (.bool false)], args := [d1, d2, d3] }
  | _ => none }
def FnExactSnapVolWrongFalsely : Prop := fnExactSnapVolRow.holds Tryz.pinned (OpenSpec.ofChange fnExactSnapVolWrong)

/-- 'laws.FnExactCloneVol': WHATEVER THE INPUT: true; the input reads as it did. -/
def fnExactCloneVolSpec : ChangeSpec := { name := "fnExactCloneVol", fn := fun _ => fun
  | [d1, d2, d3] => { results := [.lit (.bool true)], args := [d1, d2, d3] }
  | _ => none }
def fnExactCloneVolRow : OpenClaim := { program := "ytbjfihabkpianaagreatdoor", sum := "d582345bc2959411d1d665e93032146efbcc878949b02a7471c9e5cf0802a1f7", func := "loop.example/g00285/laws.FnExactCloneVol", spec := "fnExactCloneVol", inPlace := ["internal/reflectlite.ValueOf", "(internal/reflectlite.Value).Type", "(internal/reflectlite.Value).IsNil", "internal/reflectlite.TypeOf", "(internal/reflectlite.Value).Elem", "(internal/reflectlite.Value).Set"], unfollowed := true, recurses := true, named := ["errors.errorType"], apart := false, laid := [("errors.errorType", laid_errors_errorType)] }
def FnExactCloneVolSaid : Prop := fnExactCloneVolRow.holds Tryz.pinned (OpenSpec.ofChange fnExactCloneVolSpec)

/-- ITS FALSE NEIGHBOUR: 'it returns false'. Refute it at one input. -/
def fnExactCloneVolWrong : ChangeSpec := { name := "fnExactCloneVol", fn := fun _ => fun
  | [d1, d2, d3] => { results := [.lit (.bool false)], args := [d1, d2, d3] }
  | _ => none }
def FnExactCloneVolWrongFalsely : Prop := fnExactCloneVolRow.holds Tryz.pinned (OpenSpec.ofChange fnExactCloneVolWrong)

/-- 'laws.FnExactDropVol': WHATEVER THE INPUT: true; the input reads as it did. -/
def fnExactDropVolSpec : ChangeSpec := { name := "fnExactDropVol", fn := fun _ => fun
  | [d1, d2] => { results := [.lit (.bool true)], args := [d1, d2] }
  | _ => none }
def fnExactDropVolRow : OpenClaim := { program := "ytbjfihabkpianaagreatdoor", sum := "d582345bc2959411d1d665e93032146efbcc878949b02a7471c9e5cf0802a1f7", func := "loop.example/g00285/laws.FnExactDropVol", spec := "fnExactDropVol", inPlace := ["internal/reflectlite.ValueOf", "(internal/reflectlite.Value).Type", "(internal/reflectlite.Value).IsNil", "internal/reflectlite.TypeOf", "(internal/reflectlite.Value).Elem", "(internal/reflectlite.Value).Set"], unfollowed := true, recurses := true, named := ["errors.errorType"], apart := false, laid := [("errors.errorType", laid_errors_errorType)] }
def FnExactDropVolSaid : Prop := fnExactDropVolRow.holds Tryz.pinned (OpenSpec.ofChange fnExactDropVolSpec)

/-- ITS FALSE NEIGHBOUR: 'it returns false'. Refute it at one input. -/
def fnExactDropVolWrong : ChangeSpec := { name := "fnExactDropVol", fn := fun _ => fun
  | [d1, d2] => { results := [.lit (.bool false)], args := [d1, d2] }
  | _ => none }
def FnExactDropVolWrongFalsely : Prop := fnExactDropVolRow.holds Tryz.pinned (OpenSpec.ofChange fnExactDropVolWrong)

/-- 'laws.FnExactSetLimit': WHATEVER THE INPUT: true; the input reads as it did. -/
def fnExactSetLimitSpec : ChangeSpec := { name := "fnExactSetLimit", fn := fun _ => fun
  | [d1, d2, d3] => { results := [.lit (.bool true)], args := [d1, d2, d3] }
  | _ => none }
def fnExactSetLimitRow : OpenClaim := { program := "ytbjfihabkpianaagreatdoor", sum := "d582345bc2959411d1d665e93032146efbcc878949b02a7471c9e5cf0802a1f7", func := "loop.example/g00285/laws.FnExactSetLimit", spec := "fnExactSetLimit", inPlace := ["internal/reflectlite.ValueOf", "(internal/reflectlite.Value).Type", "(internal/reflectlite.Value).IsNil", "internal/reflectlite.TypeOf", "(internal/reflectlite.Value).Elem", "(internal/reflectlite.Value).Set"], unfollowed := true, recurses := true, named := ["errors.errorType"], apart := false, laid := [("errors.errorType", laid_errors_errorType)] }
def FnExactSetLimitSaid : Prop := fnExactSetLimitRow.holds Tryz.pinned (OpenSpec.ofChange fnExactSetLimitSpec)

/-- ITS FALSE NEIGHBOUR: 'it returns false'. Refute it at one input. -/
def fnExactSetLimitWrong : ChangeSpec := { name := "fnExactSetLimit", fn := fun _ => fun
  | [d1, d2, d3] => { results := [.lit (.bool false)], args := [d1, d2, d3] }
  | _ => none }
def FnExactSetLimitWrongFalsely : Prop := fnExactSetLimitRow.holds Tryz.pinned (OpenSpec.ofChange fnExactSetLimitWrong)

/-- 'laws.FnHoles': WHATEVER THE INPUT: true; the input reads as it did. -/
def fnHolesSpec : ChangeSpec := { name := "fnHoles", fn := fun _ => fun
  | [d] => { results := [.lit (.bool true)], args := [d] }
  | _ => none }
def fnHolesRow : OpenClaim := { program := "ytbjfihabkpianaagreatdoor", sum := "d582345bc2959411d1d665e93032146efbcc878949b02a7471c9e5cf0802a1f7", func := "loop.example/g00285/laws.FnHoles", spec := "fnHoles", inPlace := ["internal/bytealg.IndexByteString", "internal/bytealg.IndexString", "slices.overlaps[loop.example/g00285/impl.Inode]", "slices.overlaps[loop.example/g00285/impl.Ent]", "slices.overlaps[loop.example/g00285/impl.Attr]", "internal/reflectlite.ValueOf", "(internal/reflectlite.Value).Type", "(internal/reflectlite.Value).IsNil", "internal/reflectlite.TypeOf", "(internal/reflectlite.Value).Elem", "(internal/reflectlite.Value).Set"], unfollowed := true, recurses := true, named := ["internal/bytealg.MaxLen", "errors.errorType"], apart := false, laid := [("errors.errorType", laid_errors_errorType)] }
def FnHolesSaid : Prop := fnHolesRow.holds Tryz.pinned (OpenSpec.ofChange fnHolesSpec)

/-- ITS FALSE NEIGHBOUR: 'it returns false'. Refute it at one input. -/
def fnHolesWrong : ChangeSpec := { name := "fnHoles", fn := fun _ => fun
  | [d] => { results := [.lit (.bool false)], args := [d] }
  | _ => none }
def FnHolesWrongFalsely : Prop := fnHolesRow.holds Tryz.pinned (OpenSpec.ofChange fnHolesWrong)

/-- 'laws.FnKinds': WHATEVER THE INPUT: true; the input reads as it did. -/
def fnKindsSpec : ChangeSpec := { name := "fnKinds", fn := fun _ => fun
  | [d] => { results := [.lit (.bool true)], args := [d] }
  | _ => none }
def fnKindsRow : OpenClaim := { program := "ytbjfihabkpianaagreatdoor", sum := "d582345bc2959411d1d665e93032146efbcc878949b02a7471c9e5cf0802a1f7", func := "loop.example/g00285/laws.FnKinds", spec := "fnKinds", inPlace := ["internal/bytealg.IndexByteString", "internal/bytealg.IndexString", "slices.overlaps[loop.example/g00285/impl.Inode]", "slices.overlaps[loop.example/g00285/impl.Ent]", "slices.overlaps[loop.example/g00285/impl.Attr]", "internal/reflectlite.ValueOf", "(internal/reflectlite.Value).Type", "(internal/reflectlite.Value).IsNil", "internal/reflectlite.TypeOf", "(internal/reflectlite.Value).Elem", "(internal/reflectlite.Value).Set"], unfollowed := true, recurses := true, named := ["internal/bytealg.MaxLen", "errors.errorType"], apart := false, laid := [("errors.errorType", laid_errors_errorType)] }
def FnKindsSaid : Prop := fnKindsRow.holds Tryz.pinned (OpenSpec.ofChange fnKindsSpec)

/-- ITS FALSE NEIGHBOUR: 'it returns false'. Refute it at one input. -/
def fnKindsWrong : ChangeSpec := { name := "fnKinds", fn := fun _ => fun
  | [d] => { results := [.lit (.bool false)], args := [d] }
  | _ => none }
def FnKindsWrongFalsely : Prop := fnKindsRow.holds Tryz.pinned (OpenSpec.ofChange fnKindsWrong)

/-- 'laws.FnBigFile': WHATEVER THE INPUT: true; the input reads as it did. -/
def fnBigFileSpec : ChangeSpec := { name := "fnBigFile", fn := fun _ => fun
  | [d] => { results := [.lit (.bool true)], args := [d] }
  | _ => none }
def fnBigFileRow : OpenClaim := { program := "ytbjfihabkpianaagreatdoor", sum := "d582345bc2959411d1d665e93032146efbcc878949b02a7471c9e5cf0802a1f7", func := "loop.example/g00285/laws.FnBigFile", spec := "fnBigFile", inPlace := ["internal/bytealg.IndexByteString", "internal/bytealg.IndexString", "slices.overlaps[loop.example/g00285/impl.Inode]", "slices.overlaps[loop.example/g00285/impl.Ent]", "slices.overlaps[loop.example/g00285/impl.Attr]", "internal/reflectlite.ValueOf", "(internal/reflectlite.Value).Type", "(internal/reflectlite.Value).IsNil", "internal/reflectlite.TypeOf", "(internal/reflectlite.Value).Elem", "(internal/reflectlite.Value).Set"], unfollowed := true, recurses := true, named := ["internal/bytealg.MaxLen", "errors.errorType"], apart := false, laid := [("errors.errorType", laid_errors_errorType)] }
def FnBigFileSaid : Prop := fnBigFileRow.holds Tryz.pinned (OpenSpec.ofChange fnBigFileSpec)

/-- ITS FALSE NEIGHBOUR: 'it returns false'. Refute it at one input. -/
def fnBigFileWrong : ChangeSpec := { name := "fnBigFile", fn := fun _ => fun
  | [d] => { results := [.lit (.bool false)], args := [d] }
  | _ => none }
def FnBigFileWrongFalsely : Prop := fnBigFileRow.holds Tryz.pinned (OpenSpec.ofChange fnBigFileWrong)

/-- 'laws.FnLinkCount': WHATEVER THE INPUT: true; the input reads as it did. -/
def fnLinkCountSpec : ChangeSpec := { name := "fnLinkCount", fn := fun _ => fun
  | [d] => { results := [.lit (.bool true)], args := [d] }
  | _ => none }
def fnLinkCountRow : OpenClaim := { program := "ytbjfihabkpianaagreatdoor", sum := "d582345bc2959411d1d665e93032146efbcc878949b02a7471c9e5cf0802a1f7", func := "loop.example/g00285/laws.FnLinkCount", spec := "fnLinkCount", inPlace := ["internal/bytealg.IndexByteString", "internal/bytealg.IndexString", "slices.overlaps[loop.example/g00285/impl.Inode]", "slices.overlaps[loop.example/g00285/impl.Ent]", "slices.overlaps[loop.example/g00285/impl.Attr]", "internal/reflectlite.ValueOf", "(internal/reflectlite.Value).Type", "(internal/reflectlite.Value).IsNil", "internal/reflectlite.TypeOf", "(internal/reflectlite.Value).Elem", "(internal/reflectlite.Value).Set"], unfollowed := true, recurses := true, named := ["internal/bytealg.MaxLen", "errors.errorType"], apart := false, laid := [("errors.errorType", laid_errors_errorType)] }
def FnLinkCountSaid : Prop := fnLinkCountRow.holds Tryz.pinned (OpenSpec.ofChange fnLinkCountSpec)

/-- ITS FALSE NEIGHBOUR: 'it returns false'. Refute it at one input. -/
def fnLinkCountWrong : ChangeSpec := { name := "fnLinkCount", fn := fun _ => fun
  | [d] => { results := [.lit (.bool false)], args := [d] }
  | _ => none }
def FnLinkCountWrongFalsely : Prop := fnLinkCountRow.holds Tryz.pinned (OpenSpec.ofChange fnLinkCountWrong)

/-- 'laws.FnFullAttrs': WHATEVER THE INPUT: true; the input reads as it did. -/
def fnFullAttrsSpec : ChangeSpec := { name := "fnFullAttrs", fn := fun _ => fun
  | [d] => { results := [.lit (.bool true)], args := [d] }
  | _ => none }
def fnFullAttrsRow : OpenClaim := { program := "ytbjfihabkpianaagreatdoor", sum := "d582345bc2959411d1d665e93032146efbcc878949b02a7471c9e5cf0802a1f7", func := "loop.example/g00285/laws.FnFullAttrs", spec := "fnFullAttrs", inPlace := ["internal/bytealg.IndexByteString", "internal/bytealg.IndexString", "slices.overlaps[loop.example/g00285/impl.Inode]", "slices.overlaps[loop.example/g00285/impl.Ent]", "slices.overlaps[loop.example/g00285/impl.Attr]", "internal/reflectlite.ValueOf", "(internal/reflectlite.Value).Type", "(internal/reflectlite.Value).IsNil", "internal/reflectlite.TypeOf", "(internal/reflectlite.Value).Elem", "(internal/reflectlite.Value).Set"], unfollowed := true, recurses := true, named := ["internal/bytealg.MaxLen", "errors.errorType"], apart := false, laid := [("errors.errorType", laid_errors_errorType)] }
def FnFullAttrsSaid : Prop := fnFullAttrsRow.holds Tryz.pinned (OpenSpec.ofChange fnFullAttrsSpec)

/-- ITS FALSE NEIGHBOUR: 'it returns false'. Refute it at one input. -/
def fnFullAttrsWrong : ChangeSpec := { name := "fnFullAttrs", fn := fun _ => fun
  | [d] => { results := [.lit (.bool false)], args := [d] }
  | _ => none }
def FnFullAttrsWrongFalsely : Prop := fnFullAttrsRow.holds Tryz.pinned (OpenSpec.ofChange fnFullAttrsWrong)

/-- 'laws.FnMovedTree': WHATEVER THE INPUT: true; the input reads as it did. -/
def fnMovedTreeSpec : ChangeSpec := { name := "fnMovedTree", fn := fun _ => fun
  | [d] => { results := [.lit (.bool true)], args := [d] }
  | _ => none }
def fnMovedTreeRow : OpenClaim := { program := "ytbjfihabkpianaagreatdoor", sum := "d582345bc2959411d1d665e93032146efbcc878949b02a7471c9e5cf0802a1f7", func := "loop.example/g00285/laws.FnMovedTree", spec := "fnMovedTree", inPlace := ["internal/bytealg.IndexByteString", "internal/bytealg.IndexString", "slices.overlaps[loop.example/g00285/impl.Inode]", "slices.overlaps[loop.example/g00285/impl.Ent]", "slices.overlaps[loop.example/g00285/impl.Attr]", "internal/reflectlite.ValueOf", "(internal/reflectlite.Value).Type", "(internal/reflectlite.Value).IsNil", "internal/reflectlite.TypeOf", "(internal/reflectlite.Value).Elem", "(internal/reflectlite.Value).Set"], unfollowed := true, recurses := true, named := ["internal/bytealg.MaxLen", "errors.errorType"], apart := false, laid := [("errors.errorType", laid_errors_errorType)] }
def FnMovedTreeSaid : Prop := fnMovedTreeRow.holds Tryz.pinned (OpenSpec.ofChange fnMovedTreeSpec)

/-- ITS FALSE NEIGHBOUR: 'it returns false'. Refute it at one input. -/
def fnMovedTreeWrong : ChangeSpec := { name := "fnMovedTree", fn := fun _ => fun
  | [d] => { results := [.lit (.bool false)], args := [d] }
  | _ => none }
def FnMovedTreeWrongFalsely : Prop := fnMovedTreeRow.holds Tryz.pinned (OpenSpec.ofChange fnMovedTreeWrong)

/-- 'laws.FnRootStays': WHATEVER THE INPUT: true; the input reads as it did. -/
def fnRootStaysSpec : ChangeSpec := { name := "fnRootStays", fn := fun _ => fun
  | [d] => { results := [.lit (.bool true)], args := [d] }
  | _ => none }
def fnRootStaysRow : OpenClaim := { program := "ytbjfihabkpianaagreatdoor", sum := "d582345bc2959411d1d665e93032146efbcc878949b02a7471c9e5cf0802a1f7", func := "loop.example/g00285/laws.FnRootStays", spec := "fnRootStays", inPlace := ["internal/bytealg.IndexByteString", "internal/bytealg.IndexString", "slices.overlaps[loop.example/g00285/impl.Inode]", "slices.overlaps[loop.example/g00285/impl.Ent]", "slices.overlaps[loop.example/g00285/impl.Attr]", "internal/reflectlite.ValueOf", "(internal/reflectlite.Value).Type", "(internal/reflectlite.Value).IsNil", "internal/reflectlite.TypeOf", "(internal/reflectlite.Value).Elem", "(internal/reflectlite.Value).Set"], unfollowed := true, recurses := true, named := ["internal/bytealg.MaxLen", "errors.errorType"], apart := false, laid := [("errors.errorType", laid_errors_errorType)] }
def FnRootStaysSaid : Prop := fnRootStaysRow.holds Tryz.pinned (OpenSpec.ofChange fnRootStaysSpec)

/-- ITS FALSE NEIGHBOUR: 'it returns false'. Refute it at one input. -/
def fnRootStaysWrong : ChangeSpec := { name := "fnRootStays", fn := fun _ => fun
  | [d] => { results := [.lit (.bool false)], args := [d] }
  | _ => none }
def FnRootStaysWrongFalsely : Prop := fnRootStaysRow.holds Tryz.pinned (OpenSpec.ofChange fnRootStaysWrong)

/- THE SECOND FORM. 'bulk': how many values and letters a reading holds, each counted each time it is reached (what is shared counts as often as it is met; a slice's spare places count too). A statement '..UptoSaid' is the law's where the arguments, and the package variables that the reading takes, are together of bulk at most 1048576: NARROWER than '..Said'. Prove '..Said' where nothing that the law and all that it calls make is longer than what came in: it says more and counts as full. Else prove '..UptoSaid'. A law counts once. -/
mutual
def uptoBulk {H : Type} : DataW H → Nat
  | .lit (.string bytes) => bytes.length + 1
  | .lit _ => 1
  | .nil => 1
  | .ptr d => uptoBulk d + 1
  | .slice elems spare => uptoBulkAll elems + uptoBulkAll spare + 1
  | .agg parts => uptoBulkAll parts + 1
  | .iface _ d => uptoBulk d + 1
  | .map entries => uptoBulkEntries entries + 1
  | .held _ => 1
def uptoBulkAll {H : Type} : List (DataW H) → Nat
  | [] => 0
  | d :: r => uptoBulk d + uptoBulkAll r
def uptoBulkEntries {H : Type} : List (Lit × DataW H) → Nat
  | [] => 0
  | x :: r => uptoBulkEntry x + uptoBulkEntries r
def uptoBulkEntry {H : Type} : Lit × DataW H → Nat
  | (.string bytes, d) => bytes.length + uptoBulk d + 1
  | (_, d) => uptoBulk d + 1
 end
def uptoSmall : (H : Type) → List (DataW H) → Bool := fun _ ds => decide (uptoBulkAll ds ≤ 1048576)
def OpenSpec.upto (s : _root_.Go.ChangeSpec) : _root_.Go.OpenSpec := { _root_.Go.OpenSpec.ofChange s with cond := some uptoSmall }

/-- 'laws.FnExactNewVol', WHERE WHAT IT READS IS OF BULK AT MOST 1048576: true; the input reads as it did. -/
def fnExactNewVolUptoRow : OpenClaim := { program := "ytbjfihabkpianaagreatdoor", sum := "d582345bc2959411d1d665e93032146efbcc878949b02a7471c9e5cf0802a1f7", func := "loop.example/g00285/laws.FnExactNewVol", spec := "fnExactNewVol", inPlace := ["internal/reflectlite.ValueOf", "(internal/reflectlite.Value).Type", "(internal/reflectlite.Value).IsNil", "internal/reflectlite.TypeOf", "(internal/reflectlite.Value).Elem", "(internal/reflectlite.Value).Set"], unfollowed := true, recurses := true, named := ["errors.errorType"], apart := false, laid := [("errors.errorType", laid_errors_errorType)], narrowed := true }
def FnExactNewVolUptoSaid : Prop := fnExactNewVolUptoRow.holds Tryz.pinned (OpenSpec.upto fnExactNewVolSpec)

/-- 'laws.FnExactSnapVol', WHERE WHAT IT READS IS OF BULK AT MOST 1048576: true; the input reads as it did. -/
def fnExactSnapVolUptoRow : OpenClaim := { program := "ytbjfihabkpianaagreatdoor", sum := "d582345bc2959411d1d665e93032146efbcc878949b02a7471c9e5cf0802a1f7", func := "loop.example/g00285/laws.FnExactSnapVol", spec := "fnExactSnapVol", inPlace := ["internal/reflectlite.ValueOf", "(internal/reflectlite.Value).Type", "(internal/reflectlite.Value).IsNil", "internal/reflectlite.TypeOf", "(internal/reflectlite.Value).Elem", "(internal/reflectlite.Value).Set"], unfollowed := true, recurses := true, named := ["errors.errorType"], apart := false, laid := [("errors.errorType", laid_errors_errorType)], narrowed := true }
def FnExactSnapVolUptoSaid : Prop := fnExactSnapVolUptoRow.holds Tryz.pinned (OpenSpec.upto fnExactSnapVolSpec)

/-- 'laws.FnExactCloneVol', WHERE WHAT IT READS IS OF BULK AT MOST 1048576: true; the input reads as it did. -/
def fnExactCloneVolUptoRow : OpenClaim := { program := "ytbjfihabkpianaagreatdoor", sum := "d582345bc2959411d1d665e93032146efbcc878949b02a7471c9e5cf0802a1f7", func := "loop.example/g00285/laws.FnExactCloneVol", spec := "fnExactCloneVol", inPlace := ["internal/reflectlite.ValueOf", "(internal/reflectlite.Value).Type", "(internal/reflectlite.Value).IsNil", "internal/reflectlite.TypeOf", "(internal/reflectlite.Value).Elem", "(internal/reflectlite.Value).Set"], unfollowed := true, recurses := true, named := ["errors.errorType"], apart := false, laid := [("errors.errorType", laid_errors_errorType)], narrowed := true }
def FnExactCloneVolUptoSaid : Prop := fnExactCloneVolUptoRow.holds Tryz.pinned (OpenSpec.upto fnExactCloneVolSpec)

/-- 'laws.FnExactDropVol', WHERE WHAT IT READS IS OF BULK AT MOST 1048576: true; the input reads as it did. -/
def fnExactDropVolUptoRow : OpenClaim := { program := "ytbjfihabkpianaagreatdoor", sum := "d582345bc2959411d1d665e93032146efbcc878949b02a7471c9e5cf0802a1f7", func := "loop.example/g00285/laws.FnExactDropVol", spec := "fnExactDropVol", inPlace := ["internal/reflectlite.ValueOf", "(internal/reflectlite.Value).Type", "(internal/reflectlite.Value).IsNil", "internal/reflectlite.TypeOf", "(internal/reflectlite.Value).Elem", "(internal/reflectlite.Value).Set"], unfollowed := true, recurses := true, named := ["errors.errorType"], apart := false, laid := [("errors.errorType", laid_errors_errorType)], narrowed := true }
def FnExactDropVolUptoSaid : Prop := fnExactDropVolUptoRow.holds Tryz.pinned (OpenSpec.upto fnExactDropVolSpec)

/-- 'laws.FnExactSetLimit', WHERE WHAT IT READS IS OF BULK AT MOST 1048576: true; the input reads as it did. -/
def fnExactSetLimitUptoRow : OpenClaim := { program := "ytbjfihabkpianaagreatdoor", sum := "d582345bc2959411d1d665e93032146efbcc878949b02a7471c9e5cf0802a1f7", func := "loop.example/g00285/laws.FnExactSetLimit", spec := "fnExactSetLimit", inPlace := ["internal/reflectlite.ValueOf", "(internal/reflectlite.Value).Type", "(internal/reflectlite.Value).IsNil", "internal/reflectlite.TypeOf", "(internal/reflectlite.Value).Elem", "(internal/reflectlite.Value).Set"], unfollowed := true, recurses := true, named := ["errors.errorType"], apart := false, laid := [("errors.errorType", laid_errors_errorType)], narrowed := true }
def FnExactSetLimitUptoSaid : Prop := fnExactSetLimitUptoRow.holds Tryz.pinned (OpenSpec.upto fnExactSetLimitSpec)

/-- 'laws.FnHoles', WHERE WHAT IT READS IS OF BULK AT MOST 1048576: true; the input reads as it did. -/
def fnHolesUptoRow : OpenClaim := { program := "ytbjfihabkpianaagreatdoor", sum := "d582345bc2959411d1d665e93032146efbcc878949b02a7471c9e5cf0802a1f7", func := "loop.example/g00285/laws.FnHoles", spec := "fnHoles", inPlace := ["internal/bytealg.IndexByteString", "internal/bytealg.IndexString", "slices.overlaps[loop.example/g00285/impl.Inode]", "slices.overlaps[loop.example/g00285/impl.Ent]", "slices.overlaps[loop.example/g00285/impl.Attr]", "internal/reflectlite.ValueOf", "(internal/reflectlite.Value).Type", "(internal/reflectlite.Value).IsNil", "internal/reflectlite.TypeOf", "(internal/reflectlite.Value).Elem", "(internal/reflectlite.Value).Set"], unfollowed := true, recurses := true, named := ["internal/bytealg.MaxLen", "errors.errorType"], apart := false, laid := [("errors.errorType", laid_errors_errorType)], narrowed := true }
def FnHolesUptoSaid : Prop := fnHolesUptoRow.holds Tryz.pinned (OpenSpec.upto fnHolesSpec)

/-- 'laws.FnKinds', WHERE WHAT IT READS IS OF BULK AT MOST 1048576: true; the input reads as it did. -/
def fnKindsUptoRow : OpenClaim := { program := "ytbjfihabkpianaagreatdoor", sum := "d582345bc2959411d1d665e93032146efbcc878949b02a7471c9e5cf0802a1f7", func := "loop.example/g00285/laws.FnKinds", spec := "fnKinds", inPlace := ["internal/bytealg.IndexByteString", "internal/bytealg.IndexString", "slices.overlaps[loop.example/g00285/impl.Inode]", "slices.overlaps[loop.example/g00285/impl.Ent]", "slices.overlaps[loop.example/g00285/impl.Attr]", "internal/reflectlite.ValueOf", "(internal/reflectlite.Value).Type", "(internal/reflectlite.Value).IsNil", "internal/reflectlite.TypeOf", "(internal/reflectlite.Value).Elem", "(internal/reflectlite.Value).Set"], unfollowed := true, recurses := true, named := ["internal/bytealg.MaxLen", "errors.errorType"], apart := false, laid := [("errors.errorType", laid_errors_errorType)], narrowed := true }
def FnKindsUptoSaid : Prop := fnKindsUptoRow.holds Tryz.pinned (OpenSpec.upto fnKindsSpec)

/-- 'laws.FnBigFile', WHERE WHAT IT READS IS OF BULK AT MOST 1048576: true; the input reads as it did. -/
def fnBigFileUptoRow : OpenClaim := { program := "ytbjfihabkpianaagreatdoor", sum := "d582345bc2959411d1d665e93032146efbcc878949b02a7471c9e5cf0802a1f7", func := "loop.example/g00285/laws.FnBigFile", spec := "fnBigFile", inPlace := ["internal/bytealg.IndexByteString", "internal/bytealg.IndexString", "slices.overlaps[loop.example/g00285/impl.Inode]", "slices.overlaps[loop.example/g00285/impl.Ent]", "slices.overlaps[loop.example/g00285/impl.Attr]", "internal/reflectlite.ValueOf", "(internal/reflectlite.Value).Type", "(internal/reflectlite.Value).IsNil", "internal/reflectlite.TypeOf", "(internal/reflectlite.Value).Elem", "(internal/reflectlite.Value).Set"], unfollowed := true, recurses := true, named := ["internal/bytealg.MaxLen", "errors.errorType"], apart := false, laid := [("errors.errorType", laid_errors_errorType)], narrowed := true }
def FnBigFileUptoSaid : Prop := fnBigFileUptoRow.holds Tryz.pinned (OpenSpec.upto fnBigFileSpec)

/-- 'laws.FnLinkCount', WHERE WHAT IT READS IS OF BULK AT MOST 1048576: true; the input reads as it did. -/
def fnLinkCountUptoRow : OpenClaim := { program := "ytbjfihabkpianaagreatdoor", sum := "d582345bc2959411d1d665e93032146efbcc878949b02a7471c9e5cf0802a1f7", func := "loop.example/g00285/laws.FnLinkCount", spec := "fnLinkCount", inPlace := ["internal/bytealg.IndexByteString", "internal/bytealg.IndexString", "slices.overlaps[loop.example/g00285/impl.Inode]", "slices.overlaps[loop.example/g00285/impl.Ent]", "slices.overlaps[loop.example/g00285/impl.Attr]", "internal/reflectlite.ValueOf", "(internal/reflectlite.Value).Type", "(internal/reflectlite.Value).IsNil", "internal/reflectlite.TypeOf", "(internal/reflectlite.Value).Elem", "(internal/reflectlite.Value).Set"], unfollowed := true, recurses := true, named := ["internal/bytealg.MaxLen", "errors.errorType"], apart := false, laid := [("errors.errorType", laid_errors_errorType)], narrowed := true }
def FnLinkCountUptoSaid : Prop := fnLinkCountUptoRow.holds Tryz.pinned (OpenSpec.upto fnLinkCountSpec)

/-- 'laws.FnFullAttrs', WHERE WHAT IT READS IS OF BULK AT MOST 1048576: true; the input reads as it did. -/
def fnFullAttrsUptoRow : OpenClaim := { program := "ytbjfihabkpianaagreatdoor", sum := "d582345bc2959411d1d665e93032146efbcc878949b02a7471c9e5cf0802a1f7", func := "loop.example/g00285/laws.FnFullAttrs", spec := "fnFullAttrs", inPlace := ["internal/bytealg.IndexByteString", "internal/bytealg.IndexString", "slices.overlaps[loop.example/g00285/impl.Inode]", "slices.overlaps[loop.example/g00285/impl.Ent]", "slices.overlaps[loop.example/g00285/impl.Attr]", "internal/reflectlite.ValueOf", "(internal/reflectlite.Value).Type", "(internal/reflectlite.Value).IsNil", "internal/reflectlite.TypeOf", "(internal/reflectlite.Value).Elem", "(internal/reflectlite.Value).Set"], unfollowed := true, recurses := true, named := ["internal/bytealg.MaxLen", "errors.errorType"], apart := false, laid := [("errors.errorType", laid_errors_errorType)], narrowed := true }
def FnFullAttrsUptoSaid : Prop := fnFullAttrsUptoRow.holds Tryz.pinned (OpenSpec.upto fnFullAttrsSpec)

/-- 'laws.FnMovedTree', WHERE WHAT IT READS IS OF BULK AT MOST 1048576: true; the input reads as it did. -/
def fnMovedTreeUptoRow : OpenClaim := { program := "ytbjfihabkpianaagreatdoor", sum := "d582345bc2959411d1d665e93032146efbcc878949b02a7471c9e5cf0802a1f7", func := "loop.example/g00285/laws.FnMovedTree", spec := "fnMovedTree", inPlace := ["internal/bytealg.IndexByteString", "internal/bytealg.IndexString", "slices.overlaps[loop.example/g00285/impl.Inode]", "slices.overlaps[loop.example/g00285/impl.Ent]", "slices.overlaps[loop.example/g00285/impl.Attr]", "internal/reflectlite.ValueOf", "(internal/reflectlite.Value).Type", "(internal/reflectlite.Value).IsNil", "internal/reflectlite.TypeOf", "(internal/reflectlite.Value).Elem", "(internal/reflectlite.Value).Set"], unfollowed := true, recurses := true, named := ["internal/bytealg.MaxLen", "errors.errorType"], apart := false, laid := [("errors.errorType", laid_errors_errorType)], narrowed := true }
def FnMovedTreeUptoSaid : Prop := fnMovedTreeUptoRow.holds Tryz.pinned (OpenSpec.upto fnMovedTreeSpec)

/-- 'laws.FnRootStays', WHERE WHAT IT READS IS OF BULK AT MOST 1048576: true; the input reads as it did. -/
def fnRootStaysUptoRow : OpenClaim := { program := "ytbjfihabkpianaagreatdoor", sum := "d582345bc2959411d1d665e93032146efbcc878949b02a7471c9e5cf0802a1f7", func := "loop.example/g00285/laws.FnRootStays", spec := "fnRootStays", inPlace := ["internal/bytealg.IndexByteString", "internal/bytealg.IndexString", "slices.overlaps[loop.example/g00285/impl.Inode]", "slices.overlaps[loop.example/g00285/impl.Ent]", "slices.overlaps[loop.example/g00285/impl.Attr]", "internal/reflectlite.ValueOf", "(internal/reflectlite.Value).Type", "(internal/reflectlite.Value).IsNil", "internal/reflectlite.TypeOf", "(internal/reflectlite.Value).Elem", "(internal/reflectlite.Value).Set"], unfollowed := true, recurses := true, named := ["internal/bytealg.MaxLen", "errors.errorType"], apart := false, laid := [("errors.errorType", laid_errors_errorType)], narrowed := true }
def FnRootStaysUptoSaid : Prop := fnRootStaysUptoRow.holds Tryz.pinned (OpenSpec.upto fnRootStaysSpec)

end Rows
end Go.Proofs.YtbjfihabkpianaaGreatDoor
