/-
  NARROWER THAN 'FOR EVERY INPUT', by the rows' own cells (each row's printed sentence says how): FnExactMakeDir: laid · FnExactMakeFile: laid · FnExactHardLink: laid · FnExactRename: laid · FnRootStays: laid · FnFullDir: laid · FnHoles: laid · FnKinds: laid · FnTreesBent: laid · FnNewTabs: laid · FnBigFile: laid · FnLinkCount: laid.
  DERIVED. THE GIVEN ROWS OF THIS SEAT. 12 by the template 'for every input the law returns true; each argument reads behind the call as it read before'; 0 by the template 'total and deterministic' (their statements: YtmfimoccemgoiaaGreatDoorTotals.lean).
  GIVEN WITH THE SEED: the statements are not yours to turn. If you find one false, say at which input.
  Laid BY PROGRAM, IN A SANDBOX (cutbox-rows.mjs): the forced cells as the released guide's own fill.sh prints them over the translation 3bdcda911745ff0b… (all of the seat's roots in one cut). By AI agents, Wed Nov 11 2026. No macro, syntax, notation, axiom, sorry.
-/
import Derived.Test.YtmfimoccemgoiaaGreatDoorChecked
import GoSem.Claim
import GoSem.ClaimJoined
import GoSem.ClaimMapViews
import Derived.JoinedTies
import Derived.KernelRfl
namespace Go.Proofs.YtmfimoccemgoiaaGreatDoor
/- THE CELL 'sum', in the pinned program and in every row, IS THE sha256 OF THE DUMP (.gsa) THAT YtmfimoccemgoiaaGreatDoorProg.lean LOADS. Nothing in Lean hashes anything: it is a label: what it is worth is what the hold of that sum in a sandbox is worth. -/
noncomputable def Tryz.pinned : Pinned := { name := "ytmfimoccemgoiaagreatdoor", sum := "3bdcda911745ff0b201833575ce47af1978d5885d617b4b8c402806b8e665ae5", checked := Tryz.checked }
namespace Rows
def none {H : Type} : Left H := { results := [], args := [] }

/- WHAT THE LISTED PACKAGE-LEVEL VARIABLES READ AS WHEN THE CALL BEGINS. Each datum BY PROGRAM (the guide's laid-datum.mjs) off the statement by which the dump's own 'gosem.cut.vars' lays the variable. In a bare row this is a premise. The card (YtmfimoccemgoiaaGreatDoorCards.lean) ties it to the program's text. -/
def laid_errors_errorType {H : Type} : DataW H := .iface "internal/reflectlite.rtype" (.agg [.ptr (.lit (.string [101, 114, 114, 111, 114]))])

/-- 'laws.FnExactMakeDir': WHATEVER THE INPUT: true; the input reads as it did. -/
def fnExactMakeDirSpec : ChangeSpec := { name := "fnExactMakeDir", fn := fun _ => fun
  | [d1, d2] => { results := [.lit (.bool true)], args := [d1, d2] }
  | _ => none }
def fnExactMakeDirRow : OpenClaim := { program := "ytmfimoccemgoiaagreatdoor", sum := "3bdcda911745ff0b201833575ce47af1978d5885d617b4b8c402806b8e665ae5", func := "loop.example/g00285/laws.FnExactMakeDir", spec := "fnExactMakeDir", inPlace := ["internal/bytealg.IndexByteString", "internal/bytealg.IndexString", "slices.overlaps[loop.example/g00285/impl.Inode]", "slices.overlaps[loop.example/g00285/impl.Ent]", "slices.overlaps[loop.example/g00285/impl.Attr]", "internal/reflectlite.ValueOf", "(internal/reflectlite.Value).Type", "(internal/reflectlite.Value).IsNil", "internal/reflectlite.TypeOf", "(internal/reflectlite.Value).Elem", "(internal/reflectlite.Value).Set"], unfollowed := true, recurses := true, named := ["internal/bytealg.MaxLen", "errors.errorType"], apart := false, laid := [("errors.errorType", laid_errors_errorType)] }
def FnExactMakeDirSaid : Prop := fnExactMakeDirRow.holds Tryz.pinned (OpenSpec.ofChange fnExactMakeDirSpec)

/-- ITS FALSE NEIGHBOUR: 'it returns false'. Refute it at one input. -/
def fnExactMakeDirWrong : ChangeSpec := { name := "fnExactMakeDir", fn := fun _ => fun
  | [d1, d2] => { results := [.lit (.bool false)], args := [d1, d2] }
  | _ => none }
def FnExactMakeDirWrongFalsely : Prop := fnExactMakeDirRow.holds Tryz.pinned (OpenSpec.ofChange fnExactMakeDirWrong)

/-- 'laws.FnExactMakeFile': WHATEVER THE INPUT: true; the input reads as it did. -/
def fnExactMakeFileSpec : ChangeSpec := { name := "fnExactMakeFile", fn := fun _ => fun
  | [d1, d2] => { results := [.lit (.bool true)], args := [d1, d2] }
  | _ => none }
def fnExactMakeFileRow : OpenClaim := { program := "ytmfimoccemgoiaagreatdoor", sum := "3bdcda911745ff0b201833575ce47af1978d5885d617b4b8c402806b8e665ae5", func := "loop.example/g00285/laws.FnExactMakeFile", spec := "fnExactMakeFile", inPlace := ["internal/bytealg.IndexByteString", "internal/bytealg.IndexString", "slices.overlaps[loop.example/g00285/impl.Inode]", "slices.overlaps[loop.example/g00285/impl.Ent]", "slices.overlaps[loop.example/g00285/impl.Attr]", "internal/reflectlite.ValueOf", "(internal/reflectlite.Value).Type", "(internal/reflectlite.Value).IsNil", "internal/reflectlite.TypeOf", "(internal/reflectlite.Value).Elem", "(internal/reflectlite.Value).Set"], unfollowed := true, recurses := true, named := ["internal/bytealg.MaxLen", "errors.errorType"], apart := false, laid := [("errors.errorType", laid_errors_errorType)] }
def FnExactMakeFileSaid : Prop := fnExactMakeFileRow.holds Tryz.pinned (OpenSpec.ofChange fnExactMakeFileSpec)

/-- ITS FALSE NEIGHBOUR: 'it returns false'. Refute it at one input. -/
def fnExactMakeFileWrong : ChangeSpec := { name := "fnExactMakeFile", fn := fun _ => fun
  | [d1, d2] => { results := [.lit (.bool false)], args := [d1, d2] }
  | _ => none }
def FnExactMakeFileWrongFalsely : Prop := fnExactMakeFileRow.holds Tryz.pinned (OpenSpec.ofChange fnExactMakeFileWrong)

/-- 'laws.FnExactHardLink': WHATEVER THE INPUT: true; the input reads as it did. -/
def fnExactHardLinkSpec : ChangeSpec := { name := "fnExactHardLink", fn := fun _ => fun
  | [d1, d2, d3] => { results := [.lit (.bool true)], args := [d1, d2, d3] }
  | _ => none }
def fnExactHardLinkRow : OpenClaim := { program := "ytmfimoccemgoiaagreatdoor", sum := "3bdcda911745ff0b201833575ce47af1978d5885d617b4b8c402806b8e665ae5", func := "loop.example/g00285/laws.FnExactHardLink", spec := "fnExactHardLink", inPlace := ["internal/bytealg.IndexByteString", "internal/bytealg.IndexString", "slices.overlaps[loop.example/g00285/impl.Inode]", "slices.overlaps[loop.example/g00285/impl.Ent]", "slices.overlaps[loop.example/g00285/impl.Attr]", "internal/reflectlite.ValueOf", "(internal/reflectlite.Value).Type", "(internal/reflectlite.Value).IsNil", "internal/reflectlite.TypeOf", "(internal/reflectlite.Value).Elem", "(internal/reflectlite.Value).Set"], unfollowed := true, recurses := true, named := ["internal/bytealg.MaxLen", "errors.errorType"], apart := false, laid := [("errors.errorType", laid_errors_errorType)] }
def FnExactHardLinkSaid : Prop := fnExactHardLinkRow.holds Tryz.pinned (OpenSpec.ofChange fnExactHardLinkSpec)

/-- ITS FALSE NEIGHBOUR: 'it returns false'. Refute it at one input. -/
def fnExactHardLinkWrong : ChangeSpec := { name := "fnExactHardLink", fn := fun _ => fun
  | [d1, d2, d3] => { results := [.lit (.bool false)], args := [d1, d2, d3] }
  | _ => none }
def FnExactHardLinkWrongFalsely : Prop := fnExactHardLinkRow.holds Tryz.pinned (OpenSpec.ofChange fnExactHardLinkWrong)

/-- 'laws.FnExactRename': WHATEVER THE INPUT: true; the input reads as it did. -/
def fnExactRenameSpec : ChangeSpec := { name := "fnExactRename", fn := fun _ => fun
  | [d1, d2, d3] => { results := [.lit (.bool true)], args := [d1, d2, d3] }
  | _ => none }
def fnExactRenameRow : OpenClaim := { program := "ytmfimoccemgoiaagreatdoor", sum := "3bdcda911745ff0b201833575ce47af1978d5885d617b4b8c402806b8e665ae5", func := "loop.example/g00285/laws.FnExactRename", spec := "fnExactRename", inPlace := ["internal/bytealg.IndexByteString", "internal/bytealg.IndexString", "slices.overlaps[loop.example/g00285/impl.Inode]", "slices.overlaps[loop.example/g00285/impl.Ent]", "slices.overlaps[loop.example/g00285/impl.Attr]", "internal/reflectlite.ValueOf", "(internal/reflectlite.Value).Type", "(internal/reflectlite.Value).IsNil", "internal/reflectlite.TypeOf", "(internal/reflectlite.Value).Elem", "(internal/reflectlite.Value).Set"], unfollowed := true, recurses := true, named := ["internal/bytealg.MaxLen", "errors.errorType"], apart := false, laid := [("errors.errorType", laid_errors_errorType)] }
def FnExactRenameSaid : Prop := fnExactRenameRow.holds Tryz.pinned (OpenSpec.ofChange fnExactRenameSpec)

/-- ITS FALSE NEIGHBOUR: 'it returns false'. Refute it at one input. -/
def fnExactRenameWrong : ChangeSpec := { name := "fnExactRename", fn := fun _ => fun
  | [d1, d2, d3] => { results := [.lit (.bool false)], args := [d1, d2, d3] }
  | _ => none }
def FnExactRenameWrongFalsely : Prop := fnExactRenameRow.holds Tryz.pinned (OpenSpec.ofChange fnExactRenameWrong)

/-- 'laws.FnRootStays': WHATEVER THE INPUT: true; the input reads as it did. -/
def fnRootStaysSpec : ChangeSpec := { name := "fnRootStays", fn := fun _ => fun
  | [d] => { results := [.lit (.bool true)], args := [d] }
  | _ => none }
def fnRootStaysRow : OpenClaim := { program := "ytmfimoccemgoiaagreatdoor", sum := "3bdcda911745ff0b201833575ce47af1978d5885d617b4b8c402806b8e665ae5", func := "loop.example/g00285/laws.FnRootStays", spec := "fnRootStays", inPlace := ["internal/bytealg.IndexByteString", "internal/bytealg.IndexString", "slices.overlaps[loop.example/g00285/impl.Inode]", "slices.overlaps[loop.example/g00285/impl.Ent]", "slices.overlaps[loop.example/g00285/impl.Attr]", "internal/reflectlite.ValueOf", "(internal/reflectlite.Value).Type", "(internal/reflectlite.Value).IsNil", "internal/reflectlite.TypeOf", "(internal/reflectlite.Value).Elem", "(internal/reflectlite.Value).Set"], unfollowed := true, recurses := true, named := ["internal/bytealg.MaxLen", "errors.errorType"], apart := false, laid := [("errors.errorType", laid_errors_errorType)] }
def FnRootStaysSaid : Prop := fnRootStaysRow.holds Tryz.pinned (OpenSpec.ofChange fnRootStaysSpec)

/-- ITS FALSE NEIGHBOUR: 'it returns false'. Refute it at one input. -/
def fnRootStaysWrong : ChangeSpec := { name := "fnRootStays", fn := fun _ => fun
  | [d] => { results := [.lit (.bool false)], args := [d] }
  | _ => none }
def FnRootStaysWrongFalsely : Prop := fnRootStaysRow.holds Tryz.pinned (OpenSpec.ofChange fnRootStaysWrong)

/-- 'laws.FnFullDir': WHATEVER THE INPUT: true; the input reads as it did. -/
def fnFullDirSpec : ChangeSpec := { name := "fnFullDir", fn := fun _ => fun
  | [d] => { results := [.lit (.bool true)], args := [d] }
  | _ => none }
def fnFullDirRow : OpenClaim := { program := "ytmfimoccemgoiaagreatdoor", sum := "3bdcda911745ff0b201833575ce47af1978d5885d617b4b8c402806b8e665ae5", func := "loop.example/g00285/laws.FnFullDir", spec := "fnFullDir", inPlace := ["internal/bytealg.IndexByteString", "internal/bytealg.IndexString", "slices.overlaps[loop.example/g00285/impl.Inode]", "slices.overlaps[loop.example/g00285/impl.Ent]", "slices.overlaps[loop.example/g00285/impl.Attr]", "internal/reflectlite.ValueOf", "(internal/reflectlite.Value).Type", "(internal/reflectlite.Value).IsNil", "internal/reflectlite.TypeOf", "(internal/reflectlite.Value).Elem", "(internal/reflectlite.Value).Set"], unfollowed := true, recurses := true, named := ["internal/bytealg.MaxLen", "errors.errorType"], apart := false, laid := [("errors.errorType", laid_errors_errorType)] }
def FnFullDirSaid : Prop := fnFullDirRow.holds Tryz.pinned (OpenSpec.ofChange fnFullDirSpec)

/-- ITS FALSE NEIGHBOUR: 'it returns false'. Refute it at one input. -/
def fnFullDirWrong : ChangeSpec := { name := "fnFullDir", fn := fun _ => fun
  | [d] => { results := [.lit (.bool false)], args := [d] }
  | _ => none }
def FnFullDirWrongFalsely : Prop := fnFullDirRow.holds Tryz.pinned (OpenSpec.ofChange fnFullDirWrong)

/-- 'laws.FnHoles': WHATEVER THE INPUT: true; the input reads as it did. -/
def fnHolesSpec : ChangeSpec := { name := "fnHoles", fn := fun _ => fun
  | [d] => { results := [.lit (.bool true)], args := [d] }
  | _ => none }
def fnHolesRow : OpenClaim := { program := "ytmfimoccemgoiaagreatdoor", sum := "3bdcda911745ff0b201833575ce47af1978d5885d617b4b8c402806b8e665ae5", func := "loop.example/g00285/laws.FnHoles", spec := "fnHoles", inPlace := ["internal/bytealg.IndexByteString", "internal/bytealg.IndexString", "slices.overlaps[loop.example/g00285/impl.Inode]", "slices.overlaps[loop.example/g00285/impl.Ent]", "slices.overlaps[loop.example/g00285/impl.Attr]", "internal/reflectlite.ValueOf", "(internal/reflectlite.Value).Type", "(internal/reflectlite.Value).IsNil", "internal/reflectlite.TypeOf", "(internal/reflectlite.Value).Elem", "(internal/reflectlite.Value).Set"], unfollowed := true, recurses := true, named := ["internal/bytealg.MaxLen", "errors.errorType"], apart := false, laid := [("errors.errorType", laid_errors_errorType)] }
def FnHolesSaid : Prop := fnHolesRow.holds Tryz.pinned (OpenSpec.ofChange fnHolesSpec)

/-- ITS FALSE NEIGHBOUR: 'it returns false'. Refute it at one input. -/
def fnHolesWrong : ChangeSpec := { name := "fnHoles", fn := fun _ => fun
  | [d] => { results := [.lit (.bool false)], args := [d] }
  | _ => none }
def FnHolesWrongFalsely : Prop := fnHolesRow.holds Tryz.pinned (OpenSpec.ofChange fnHolesWrong)

/-- 'laws.FnKinds': WHATEVER THE INPUT: true; the input reads as it did. -/
def fnKindsSpec : ChangeSpec := { name := "fnKinds", fn := fun _ => fun
  | [d] => { results := [.lit (.bool true)], args := [d] }
  | _ => none }
def fnKindsRow : OpenClaim := { program := "ytmfimoccemgoiaagreatdoor", sum := "3bdcda911745ff0b201833575ce47af1978d5885d617b4b8c402806b8e665ae5", func := "loop.example/g00285/laws.FnKinds", spec := "fnKinds", inPlace := ["internal/bytealg.IndexByteString", "internal/bytealg.IndexString", "slices.overlaps[loop.example/g00285/impl.Inode]", "slices.overlaps[loop.example/g00285/impl.Ent]", "slices.overlaps[loop.example/g00285/impl.Attr]", "internal/reflectlite.ValueOf", "(internal/reflectlite.Value).Type", "(internal/reflectlite.Value).IsNil", "internal/reflectlite.TypeOf", "(internal/reflectlite.Value).Elem", "(internal/reflectlite.Value).Set"], unfollowed := true, recurses := true, named := ["internal/bytealg.MaxLen", "errors.errorType"], apart := false, laid := [("errors.errorType", laid_errors_errorType)] }
def FnKindsSaid : Prop := fnKindsRow.holds Tryz.pinned (OpenSpec.ofChange fnKindsSpec)

/-- ITS FALSE NEIGHBOUR: 'it returns false'. Refute it at one input. -/
def fnKindsWrong : ChangeSpec := { name := "fnKinds", fn := fun _ => fun
  | [d] => { results := [.lit (.bool false)], args := [d] }
  | _ => none }
def FnKindsWrongFalsely : Prop := fnKindsRow.holds Tryz.pinned (OpenSpec.ofChange fnKindsWrong)

/-- 'laws.FnTreesBent': WHATEVER THE INPUT: true; the input reads as it did. -/
def fnTreesBentSpec : ChangeSpec := { name := "fnTreesBent", fn := fun _ => fun
  | [d] => { results := [.lit (.bool true)], args := [d] }
  | _ => none }
def fnTreesBentRow : OpenClaim := { program := "ytmfimoccemgoiaagreatdoor", sum := "3bdcda911745ff0b201833575ce47af1978d5885d617b4b8c402806b8e665ae5", func := "loop.example/g00285/laws.FnTreesBent", spec := "fnTreesBent", inPlace := ["internal/bytealg.IndexByteString", "internal/bytealg.IndexString", "slices.overlaps[loop.example/g00285/impl.Inode]", "slices.overlaps[loop.example/g00285/impl.Ent]", "slices.overlaps[loop.example/g00285/impl.Attr]", "internal/reflectlite.ValueOf", "(internal/reflectlite.Value).Type", "(internal/reflectlite.Value).IsNil", "internal/reflectlite.TypeOf", "(internal/reflectlite.Value).Elem", "(internal/reflectlite.Value).Set"], unfollowed := true, recurses := true, named := ["internal/bytealg.MaxLen", "errors.errorType"], apart := false, laid := [("errors.errorType", laid_errors_errorType)] }
def FnTreesBentSaid : Prop := fnTreesBentRow.holds Tryz.pinned (OpenSpec.ofChange fnTreesBentSpec)

/-- ITS FALSE NEIGHBOUR: 'it returns false'. Refute it at one input. -/
def fnTreesBentWrong : ChangeSpec := { name := "fnTreesBent", fn := fun _ => fun
  | [d] => { results := [.lit (.bool false)], args := [d] }
  | _ => none }
def FnTreesBentWrongFalsely : Prop := fnTreesBentRow.holds Tryz.pinned (OpenSpec.ofChange fnTreesBentWrong)

/-- 'laws.FnNewTabs': WHATEVER THE INPUT: true; the input reads as it did. -/
def fnNewTabsSpec : ChangeSpec := { name := "fnNewTabs", fn := fun _ => fun
  | [d] => { results := [.lit (.bool true)], args := [d] }
  | _ => none }
def fnNewTabsRow : OpenClaim := { program := "ytmfimoccemgoiaagreatdoor", sum := "3bdcda911745ff0b201833575ce47af1978d5885d617b4b8c402806b8e665ae5", func := "loop.example/g00285/laws.FnNewTabs", spec := "fnNewTabs", inPlace := ["internal/bytealg.IndexByteString", "internal/bytealg.IndexString", "internal/reflectlite.ValueOf", "(internal/reflectlite.Value).Type", "(internal/reflectlite.Value).IsNil", "internal/reflectlite.TypeOf", "(internal/reflectlite.Value).Elem", "(internal/reflectlite.Value).Set"], unfollowed := true, recurses := true, named := ["internal/bytealg.MaxLen", "errors.errorType"], apart := false, laid := [("errors.errorType", laid_errors_errorType)] }
def FnNewTabsSaid : Prop := fnNewTabsRow.holds Tryz.pinned (OpenSpec.ofChange fnNewTabsSpec)

/-- ITS FALSE NEIGHBOUR: 'it returns false'. Refute it at one input. -/
def fnNewTabsWrong : ChangeSpec := { name := "fnNewTabs", fn := fun _ => fun
  | [d] => { results := [.lit (.bool false)], args := [d] }
  | _ => none }
def FnNewTabsWrongFalsely : Prop := fnNewTabsRow.holds Tryz.pinned (OpenSpec.ofChange fnNewTabsWrong)

/-- 'laws.FnBigFile': WHATEVER THE INPUT: true; the input reads as it did. -/
def fnBigFileSpec : ChangeSpec := { name := "fnBigFile", fn := fun _ => fun
  | [d] => { results := [.lit (.bool true)], args := [d] }
  | _ => none }
def fnBigFileRow : OpenClaim := { program := "ytmfimoccemgoiaagreatdoor", sum := "3bdcda911745ff0b201833575ce47af1978d5885d617b4b8c402806b8e665ae5", func := "loop.example/g00285/laws.FnBigFile", spec := "fnBigFile", inPlace := ["internal/bytealg.IndexByteString", "internal/bytealg.IndexString", "slices.overlaps[loop.example/g00285/impl.Inode]", "slices.overlaps[loop.example/g00285/impl.Ent]", "slices.overlaps[loop.example/g00285/impl.Attr]", "internal/reflectlite.ValueOf", "(internal/reflectlite.Value).Type", "(internal/reflectlite.Value).IsNil", "internal/reflectlite.TypeOf", "(internal/reflectlite.Value).Elem", "(internal/reflectlite.Value).Set"], unfollowed := true, recurses := true, named := ["internal/bytealg.MaxLen", "errors.errorType"], apart := false, laid := [("errors.errorType", laid_errors_errorType)] }
def FnBigFileSaid : Prop := fnBigFileRow.holds Tryz.pinned (OpenSpec.ofChange fnBigFileSpec)

/-- ITS FALSE NEIGHBOUR: 'it returns false'. Refute it at one input. -/
def fnBigFileWrong : ChangeSpec := { name := "fnBigFile", fn := fun _ => fun
  | [d] => { results := [.lit (.bool false)], args := [d] }
  | _ => none }
def FnBigFileWrongFalsely : Prop := fnBigFileRow.holds Tryz.pinned (OpenSpec.ofChange fnBigFileWrong)

/-- 'laws.FnLinkCount': WHATEVER THE INPUT: true; the input reads as it did. -/
def fnLinkCountSpec : ChangeSpec := { name := "fnLinkCount", fn := fun _ => fun
  | [d] => { results := [.lit (.bool true)], args := [d] }
  | _ => none }
def fnLinkCountRow : OpenClaim := { program := "ytmfimoccemgoiaagreatdoor", sum := "3bdcda911745ff0b201833575ce47af1978d5885d617b4b8c402806b8e665ae5", func := "loop.example/g00285/laws.FnLinkCount", spec := "fnLinkCount", inPlace := ["internal/bytealg.IndexByteString", "internal/bytealg.IndexString", "slices.overlaps[loop.example/g00285/impl.Inode]", "slices.overlaps[loop.example/g00285/impl.Ent]", "slices.overlaps[loop.example/g00285/impl.Attr]", "internal/reflectlite.ValueOf", "(internal/reflectlite.Value).Type", "(internal/reflectlite.Value).IsNil", "internal/reflectlite.TypeOf", "(internal/reflectlite.Value).Elem", "(internal/reflectlite.Value).Set"], unfollowed := true, recurses := true, named := ["internal/bytealg.MaxLen", "errors.errorType"], apart := false, laid := [("errors.errorType", laid_errors_errorType)] }
def FnLinkCountSaid : Prop := fnLinkCountRow.holds Tryz.pinned (OpenSpec.ofChange fnLinkCountSpec)

/-- ITS FALSE NEIGHBOUR: 'it returns false'. Refute it at one input. -/
def fnLinkCountWrong : ChangeSpec := { name := "fnLinkCount", fn := fun _ => fun
  | [d] => { results := [.lit (.bool false)], args := [d] }
  | _ => none }
def FnLinkCountWrongFalsely : Prop := fnLinkCountRow.holds Tryz.pinned (OpenSpec.ofChange fnLinkCountWrong)

/- THE SECOND FORM. 'bulk': how many values and letters a reading holds, each counted each time it is reached (what is shared counts as often as it is met; a slice's spare places count too). A statement '..UptoSaid' is the law's where the arguments, and the package variables that the reading takes, are together of bulk at most 1048576: NARROWER than '..Said'. Prove '..Said' where nothing that the law and all that it calls make is longer than what came in: it says more and counts as full. Else prove '..UptoSaid'. A law counts once. -/
mutual
def uptoBulk {H : Type} : DataW H → Nat
  | .lit (.string bytes) => bytes.length + 1
  | .lit _ => 1
  | .nil => 1
  | .ptr d => uptoBulk d + 1
  | .slice elems spare => uptoBulkAll elems + uptoBulkAll spare + 1
  | .agg parts => uptoBulkAll parts + 1
  | .iface _ d => uptoBulk d + 1
  | .map entries => uptoBulkEntries entries + 1
  | .held _ => 1
def uptoBulkAll {H : Type} : List (DataW H) → Nat
  | [] => 0
  | d :: r => uptoBulk d + uptoBulkAll r
def uptoBulkEntries {H : Type} : List (Lit × DataW H) → Nat
  | [] => 0
  | x :: r => uptoBulkEntry x + uptoBulkEntries r
def uptoBulkEntry {H : Type} : Lit × DataW H → Nat
  | (.string bytes, d) => bytes.length + uptoBulk d + 1
  | (_, d) => uptoBulk d + 1
 end
def uptoSmall : (H : Type) → List (DataW H) → Bool := fun _ ds => decide (uptoBulkAll ds ≤ 1048576)
def OpenSpec.upto (s : _root_.Go.ChangeSpec) : _root_.Go.OpenSpec := { _root_.Go.OpenSpec.ofChange s with cond := some uptoSmall }

/-- 'laws.FnExactMakeDir', WHERE WHAT IT READS IS OF BULK AT MOST 1048576: true; the input reads as it did. -/
def fnExactMakeDirUptoRow : OpenClaim := { program := "ytmfimoccemgoiaagreatdoor", sum := "3bdcda911745ff0b201833575ce47af1978d5885d617b4b8c402806b8e665ae5", func := "loop.example/g00285/laws.FnExactMakeDir", spec := "fnExactMakeDir", inPlace := ["internal/bytealg.IndexByteString", "internal/bytealg.IndexString", "slices.overlaps[loop.example/g00285/impl.Inode]", "slices.overlaps[loop.example/g00285/impl.Ent]", "slices.overlaps[loop.example/g00285/impl.Attr]", "internal/reflectlite.ValueOf", "(internal/reflectlite.Value).Type", "(internal/reflectlite.Value).IsNil", "internal/reflectlite.TypeOf", "(internal/reflectlite.Value).Elem", "(internal/reflectlite.Value).Set"], unfollowed := true, recurses := true, named := ["internal/bytealg.MaxLen", "errors.errorType"], apart := false, laid := [("errors.errorType", laid_errors_errorType)], narrowed := true }
def FnExactMakeDirUptoSaid : Prop := fnExactMakeDirUptoRow.holds Tryz.pinned (OpenSpec.upto fnExactMakeDirSpec)

/-- 'laws.FnExactMakeFile', WHERE WHAT IT READS IS OF BULK AT MOST 1048576: true; the input reads as it did. -/
def fnExactMakeFileUptoRow : OpenClaim := { program := "ytmfimoccemgoiaagreatdoor", sum := "3bdcda911745ff0b201833575ce47af1978d5885d617b4b8c402806b8e665ae5", func := "loop.example/g00285/laws.FnExactMakeFile", spec := "fnExactMakeFile", inPlace := ["internal/bytealg.IndexByteString", "internal/bytealg.IndexString", "slices.overlaps[loop.example/g00285/impl.Inode]", "slices.overlaps[loop.example/g00285/impl.Ent]", "slices.overlaps[loop.example/g00285/impl.Attr]", "internal/reflectlite.ValueOf", "(internal/reflectlite.Value).Type", "(internal/reflectlite.Value).IsNil", "internal/reflectlite.TypeOf", "(internal/reflectlite.Value).Elem", "(internal/reflectlite.Value).Set"], unfollowed := true, recurses := true, named := ["internal/bytealg.MaxLen", "errors.errorType"], apart := false, laid := [("errors.errorType", laid_errors_errorType)], narrowed := true }
def FnExactMakeFileUptoSaid : Prop := fnExactMakeFileUptoRow.holds Tryz.pinned (OpenSpec.upto fnExactMakeFileSpec)

/-- 'laws.FnExactHardLink', WHERE WHAT IT READS IS OF BULK AT MOST 1048576: true; the input reads as it did. -/
def fnExactHardLinkUptoRow : OpenClaim := { program := "ytmfimoccemgoiaagreatdoor", sum := "3bdcda911745ff0b201833575ce47af1978d5885d617b4b8c402806b8e665ae5", func := "loop.example/g00285/laws.FnExactHardLink", spec := "fnExactHardLink", inPlace := ["internal/bytealg.IndexByteString", "internal/bytealg.IndexString", "slices.overlaps[loop.example/g00285/impl.Inode]", "slices.overlaps[loop.example/g00285/impl.Ent]", "slices.overlaps[loop.example/g00285/impl.Attr]", "internal/reflectlite.ValueOf", "(internal/reflectlite.Value).Type", "(internal/reflectlite.Value).IsNil", "internal/reflectlite.TypeOf", "(internal/reflectlite.Value).Elem", "(internal/reflectlite.Value).Set"], unfollowed := true, recurses := true, named := ["internal/bytealg.MaxLen", "errors.errorType"], apart := false, laid := [("errors.errorType", laid_errors_errorType)], narrowed := true }
def FnExactHardLinkUptoSaid : Prop := fnExactHardLinkUptoRow.holds Tryz.pinned (OpenSpec.upto fnExactHardLinkSpec)

/-- 'laws.FnExactRename', WHERE WHAT IT READS IS OF BULK AT MOST 1048576: true; the input reads as it did. -/
def fnExactRenameUptoRow : OpenClaim := { program := "ytmfimoccemgoiaagreatdoor", sum := "3bdcda911745ff0b201833575ce47af1978d5885d617b4b8c402806b8e665ae5", func := "loop.example/g00285/laws.FnExactRename", spec := "fnExactRename", inPlace := ["internal/bytealg.IndexByteString", "internal/bytealg.IndexString", "slices.overlaps[loop.example/g00285/impl.Inode]", "slices.overlaps[loop.example/g00285/impl.Ent]", "slices.overlaps[loop.example/g00285/impl.Attr]", "internal/reflectlite.ValueOf", "(internal/reflectlite.Value).Type", "(internal/reflectlite.Value).IsNil", "internal/reflectlite.TypeOf", "(internal/reflectlite.Value).Elem", "(internal/reflectlite.Value).Set"], unfollowed := true, recurses := true, named := ["internal/bytealg.MaxLen", "errors.errorType"], apart := false, laid := [("errors.errorType", laid_errors_errorType)], narrowed := true }
def FnExactRenameUptoSaid : Prop := fnExactRenameUptoRow.holds Tryz.pinned (OpenSpec.upto fnExactRenameSpec)

/-- 'laws.FnRootStays', WHERE WHAT IT READS IS OF BULK AT MOST 1048576: true; the input reads as it did. -/
def fnRootStaysUptoRow : OpenClaim := { program := "ytmfimoccemgoiaagreatdoor", sum := "3bdcda911745ff0b201833575ce47af1978d5885d617b4b8c402806b8e665ae5", func := "loop.example/g00285/laws.FnRootStays", spec := "fnRootStays", inPlace := ["internal/bytealg.IndexByteString", "internal/bytealg.IndexString", "slices.overlaps[loop.example/g00285/impl.Inode]", "slices.overlaps[loop.example/g00285/impl.Ent]", "slices.overlaps[loop.example/g00285/impl.Attr]", "internal/reflectlite.ValueOf", "(internal/reflectlite.Value).Type", "(internal/reflectlite.Value).IsNil", "internal/reflectlite.TypeOf", "(internal/reflectlite.Value).Elem", "(internal/reflectlite.Value).Set"], unfollowed := true, recurses := true, named := ["internal/bytealg.MaxLen", "errors.errorType"], apart := false, laid := [("errors.errorType", laid_errors_errorType)], narrowed := true }
def FnRootStaysUptoSaid : Prop := fnRootStaysUptoRow.holds Tryz.pinned (OpenSpec.upto fnRootStaysSpec)

/-- 'laws.FnFullDir', WHERE WHAT IT READS IS OF BULK AT MOST 1048576: true; the input reads as it did. -/
def fnFullDirUptoRow : OpenClaim := { program := "ytmfimoccemgoiaagreatdoor", sum := "3bdcda911745ff0b201833575ce47af1978d5885d617b4b8c402806b8e665ae5", func := "loop.example/g00285/laws.FnFullDir", spec := "fnFullDir", inPlace := ["internal/bytealg.IndexByteString", "internal/bytealg.IndexString", "slices.overlaps[loop.example/g00285/impl.Inode]", "slices.overlaps[loop.example/g00285/impl.Ent]", "slices.overlaps[loop.example/g00285/impl.Attr]", "internal/reflectlite.ValueOf", "(internal/reflectlite.Value).Type", "(internal/reflectlite.Value).IsNil", "internal/reflectlite.TypeOf", "(internal/reflectlite.Value).Elem", "(internal/reflectlite.Value).Set"], unfollowed := true, recurses := true, named := ["internal/bytealg.MaxLen", "errors.errorType"], apart := false, laid := [("errors.errorType", laid_errors_errorType)], narrowed := true }
def FnFullDirUptoSaid : Prop := fnFullDirUptoRow.holds Tryz.pinned (OpenSpec.upto fnFullDirSpec)

/-- 'laws.FnHoles', WHERE WHAT IT READS IS OF BULK AT MOST 1048576: true; the input reads as it did. -/
def fnHolesUptoRow : OpenClaim := { program := "ytmfimoccemgoiaagreatdoor", sum := "3bdcda911745ff0b201833575ce47af1978d5885d617b4b8c402806b8e665ae5", func := "loop.example/g00285/laws.FnHoles", spec := "fnHoles", inPlace := ["internal/bytealg.IndexByteString", "internal/bytealg.IndexString", "slices.overlaps[loop.example/g00285/impl.Inode]", "slices.overlaps[loop.example/g00285/impl.Ent]", "slices.overlaps[loop.example/g00285/impl.Attr]", "internal/reflectlite.ValueOf", "(internal/reflectlite.Value).Type", "(internal/reflectlite.Value).IsNil", "internal/reflectlite.TypeOf", "(internal/reflectlite.Value).Elem", "(internal/reflectlite.Value).Set"], unfollowed := true, recurses := true, named := ["internal/bytealg.MaxLen", "errors.errorType"], apart := false, laid := [("errors.errorType", laid_errors_errorType)], narrowed := true }
def FnHolesUptoSaid : Prop := fnHolesUptoRow.holds Tryz.pinned (OpenSpec.upto fnHolesSpec)

/-- 'laws.FnKinds', WHERE WHAT IT READS IS OF BULK AT MOST 1048576: true; the input reads as it did. -/
def fnKindsUptoRow : OpenClaim := { program := "ytmfimoccemgoiaagreatdoor", sum := "3bdcda911745ff0b201833575ce47af1978d5885d617b4b8c402806b8e665ae5", func := "loop.example/g00285/laws.FnKinds", spec := "fnKinds", inPlace := ["internal/bytealg.IndexByteString", "internal/bytealg.IndexString", "slices.overlaps[loop.example/g00285/impl.Inode]", "slices.overlaps[loop.example/g00285/impl.Ent]", "slices.overlaps[loop.example/g00285/impl.Attr]", "internal/reflectlite.ValueOf", "(internal/reflectlite.Value).Type", "(internal/reflectlite.Value).IsNil", "internal/reflectlite.TypeOf", "(internal/reflectlite.Value).Elem", "(internal/reflectlite.Value).Set"], unfollowed := true, recurses := true, named := ["internal/bytealg.MaxLen", "errors.errorType"], apart := false, laid := [("errors.errorType", laid_errors_errorType)], narrowed := true }
def FnKindsUptoSaid : Prop := fnKindsUptoRow.holds Tryz.pinned (OpenSpec.upto fnKindsSpec)

/-- 'laws.FnTreesBent', WHERE WHAT IT READS IS OF BULK AT MOST 1048576: true; the input reads as it did. -/
def fnTreesBentUptoRow : OpenClaim := { program := "ytmfimoccemgoiaagreatdoor", sum := "3bdcda911745ff0b201833575ce47af1978d5885d617b4b8c402806b8e665ae5", func := "loop.example/g00285/laws.FnTreesBent", spec := "fnTreesBent", inPlace := ["internal/bytealg.IndexByteString", "internal/bytealg.IndexString", "slices.overlaps[loop.example/g00285/impl.Inode]", "slices.overlaps[loop.example/g00285/impl.Ent]", "slices.overlaps[loop.example/g00285/impl.Attr]", "internal/reflectlite.ValueOf", "(internal/reflectlite.Value).Type", "(internal/reflectlite.Value).IsNil", "internal/reflectlite.TypeOf", "(internal/reflectlite.Value).Elem", "(internal/reflectlite.Value).Set"], unfollowed := true, recurses := true, named := ["internal/bytealg.MaxLen", "errors.errorType"], apart := false, laid := [("errors.errorType", laid_errors_errorType)], narrowed := true }
def FnTreesBentUptoSaid : Prop := fnTreesBentUptoRow.holds Tryz.pinned (OpenSpec.upto fnTreesBentSpec)

/-- 'laws.FnNewTabs', WHERE WHAT IT READS IS OF BULK AT MOST 1048576: true; the input reads as it did. -/
def fnNewTabsUptoRow : OpenClaim := { program := "ytmfimoccemgoiaagreatdoor", sum := "3bdcda911745ff0b201833575ce47af1978d5885d617b4b8c402806b8e665ae5", func := "loop.example/g00285/laws.FnNewTabs", spec := "fnNewTabs", inPlace := ["internal/bytealg.IndexByteString", "internal/bytealg.IndexString", "internal/reflectlite.ValueOf", "(internal/reflectlite.Value).Type", "(internal/reflectlite.Value).IsNil", "internal/reflectlite.TypeOf", "(internal/reflectlite.Value).Elem", "(internal/reflectlite.Value).Set"], unfollowed := true, recurses := true, named := ["internal/bytealg.MaxLen", "errors.errorType"], apart := false, laid := [("errors.errorType", laid_errors_errorType)], narrowed := true }
def FnNewTabsUptoSaid : Prop := fnNewTabsUptoRow.holds Tryz.pinned (OpenSpec.upto fnNewTabsSpec)

/-- 'laws.FnBigFile', WHERE WHAT IT READS IS OF BULK AT MOST 1048576: true; the input reads as it did. -/
def fnBigFileUptoRow : OpenClaim := { program := "ytmfimoccemgoiaagreatdoor", sum := "3bdcda911745ff0b201833575ce47af1978d5885d617b4b8c402806b8e665ae5", func := "loop.example/g00285/laws.FnBigFile", spec := "fnBigFile", inPlace := ["internal/bytealg.IndexByteString", "internal/bytealg.IndexString", "slices.overlaps[loop.example/g00285/impl.Inode]", "slices.overlaps[loop.example/g00285/impl.Ent]", "slices.overlaps[loop.example/g00285/impl.Attr]", "internal/reflectlite.ValueOf", "(internal/reflectlite.Value).Type", "(internal/reflectlite.Value).IsNil", "internal/reflectlite.TypeOf", "(internal/reflectlite.Value).Elem", "(internal/reflectlite.Value).Set"], unfollowed := true, recurses := true, named := ["internal/bytealg.MaxLen", "errors.errorType"], apart := false, laid := [("errors.errorType", laid_errors_errorType)], narrowed := true }
def FnBigFileUptoSaid : Prop := fnBigFileUptoRow.holds Tryz.pinned (OpenSpec.upto fnBigFileSpec)

/-- 'laws.FnLinkCount', WHERE WHAT IT READS IS OF BULK AT MOST 1048576: true; the input reads as it did. -/
def fnLinkCountUptoRow : OpenClaim := { program := "ytmfimoccemgoiaagreatdoor", sum := "3bdcda911745ff0b201833575ce47af1978d5885d617b4b8c402806b8e665ae5", func := "loop.example/g00285/laws.FnLinkCount", spec := "fnLinkCount", inPlace := ["internal/bytealg.IndexByteString", "internal/bytealg.IndexString", "slices.overlaps[loop.example/g00285/impl.Inode]", "slices.overlaps[loop.example/g00285/impl.Ent]", "slices.overlaps[loop.example/g00285/impl.Attr]", "internal/reflectlite.ValueOf", "(internal/reflectlite.Value).Type", "(internal/reflectlite.Value).IsNil", "internal/reflectlite.TypeOf", "(internal/reflectlite.Value).Elem", "(internal/reflectlite.Value).Set"], unfollowed := true, recurses := true, named := ["internal/bytealg.MaxLen", "errors.errorType"], apart := false, laid := [("errors.errorType", laid_errors_errorType)], narrowed := true }
def FnLinkCountUptoSaid : Prop := fnLinkCountUptoRow.holds Tryz.pinned (OpenSpec.upto fnLinkCountSpec)

end Rows
end Go.Proofs.YtmfimoccemgoiaaGreatDoor
