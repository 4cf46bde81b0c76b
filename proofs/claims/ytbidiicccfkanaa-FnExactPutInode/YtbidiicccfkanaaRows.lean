/-
  No cell of these rows narrows 'for every input' (looked for: loops, veiled, ifaces, maps, wideKeys, modest, calm, conditions, laid).
  DERIVED. THE GIVEN ROWS OF THIS SEAT. 9 by the template 'for every input the law returns true; each argument reads behind the call as it read before'; 0 by the template 'total and deterministic' (their statements: YtbidiicccfkanaaTotals.lean).
  GIVEN WITH THE SEED: the statements are not yours to turn. If you find one false, say at which input.
  Laid BY PROGRAM, IN A SANDBOX (cutbox-rows.mjs): the forced cells as the released guide's own fill.sh prints them over the translation 6c4144a52280cf4f… (all of the seat's roots in one cut). By AI agents, Wed Nov 11 2026. No macro, syntax, notation, axiom, sorry.
-/
import Derived.Test.YtbidiicccfkanaaChecked
import GoSem.Claim
import GoSem.ClaimJoined
import GoSem.ClaimMapViews
import Derived.JoinedTies
import Derived.KernelRfl
namespace Go.Proofs.Ytbidiicccfkanaa
/- THE CELL 'sum', in the pinned program and in every row, IS THE sha256 OF THE DUMP (.gsa) THAT YtbidiicccfkanaaProg.lean LOADS. Nothing in Lean hashes anything: it is a label: what it is worth is what the hold of that sum in a sandbox is worth. -/
noncomputable def Try.pinned : Pinned := { name := "ytbidiicccfkanaa", sum := "6c4144a52280cf4ff350c89d862f132202b9e537c449781632ab8f06bde02209", checked := Try.checked }
namespace Rows
def none {H : Type} : Left H := { results := [], args := [] }

/-- 'laws.FnNums': WHATEVER THE INPUT: true; the input reads as it did. -/
def fnNumsSpec : ChangeSpec := { name := "fnNums", fn := fun _ => fun
  | [d] => { results := [.lit (.bool true)], args := [d] }
  | _ => none }
def fnNumsRow : OpenClaim := { program := "ytbidiicccfkanaa", sum := "6c4144a52280cf4ff350c89d862f132202b9e537c449781632ab8f06bde02209", func := "loop.example/g00285/laws.FnNums", spec := "fnNums", apart := false }
def FnNumsSaid : Prop := fnNumsRow.holds Try.pinned (OpenSpec.ofChange fnNumsSpec)

/-- ITS FALSE NEIGHBOUR: 'it returns false'. Refute it at one input. -/
def fnNumsWrong : ChangeSpec := { name := "fnNums", fn := fun _ => fun
  | [d] => { results := [.lit (.bool false)], args := [d] }
  | _ => none }
def FnNumsWrongFalsely : Prop := fnNumsRow.holds Try.pinned (OpenSpec.ofChange fnNumsWrong)

/-- 'laws.FnInodes': WHATEVER THE INPUT: true; the input reads as it did. -/
def fnInodesSpec : ChangeSpec := { name := "fnInodes", fn := fun _ => fun
  | [d] => { results := [.lit (.bool true)], args := [d] }
  | _ => none }
def fnInodesRow : OpenClaim := { program := "ytbidiicccfkanaa", sum := "6c4144a52280cf4ff350c89d862f132202b9e537c449781632ab8f06bde02209", func := "loop.example/g00285/laws.FnInodes", spec := "fnInodes", unfollowed := true, recurses := true, apart := false }
def FnInodesSaid : Prop := fnInodesRow.holds Try.pinned (OpenSpec.ofChange fnInodesSpec)

/-- ITS FALSE NEIGHBOUR: 'it returns false'. Refute it at one input. -/
def fnInodesWrong : ChangeSpec := { name := "fnInodes", fn := fun _ => fun
  | [d] => { results := [.lit (.bool false)], args := [d] }
  | _ => none }
def FnInodesWrongFalsely : Prop := fnInodesRow.holds Try.pinned (OpenSpec.ofChange fnInodesWrong)

/-- 'laws.FnInodesRead': WHATEVER THE INPUT: true; the input reads as it did. -/
def fnInodesReadSpec : ChangeSpec := { name := "fnInodesRead", fn := fun _ => fun
  | [d] => { results := [.lit (.bool true)], args := [d] }
  | _ => none }
def fnInodesReadRow : OpenClaim := { program := "ytbidiicccfkanaa", sum := "6c4144a52280cf4ff350c89d862f132202b9e537c449781632ab8f06bde02209", func := "loop.example/g00285/laws.FnInodesRead", spec := "fnInodesRead", unfollowed := true, recurses := true, apart := false }
def FnInodesReadSaid : Prop := fnInodesReadRow.holds Try.pinned (OpenSpec.ofChange fnInodesReadSpec)

/-- ITS FALSE NEIGHBOUR: 'it returns false'. Refute it at one input. -/
def fnInodesReadWrong : ChangeSpec := { name := "fnInodesRead", fn := fun _ => fun
  | [d] => { results := [.lit (.bool false)], args := [d] }
  | _ => none }
def FnInodesReadWrongFalsely : Prop := fnInodesReadRow.holds Try.pinned (OpenSpec.ofChange fnInodesReadWrong)

/-- 'laws.FnExactPutText': WHATEVER THE INPUT: true; the input reads as it did. -/
def fnExactPutTextSpec : ChangeSpec := { name := "fnExactPutText", fn := fun _ => fun
  | [d1, d2] => { results := [.lit (.bool true)], args := [d1, d2] }
  | _ => none }
def fnExactPutTextRow : OpenClaim := { program := "ytbidiicccfkanaa", sum := "6c4144a52280cf4ff350c89d862f132202b9e537c449781632ab8f06bde02209", func := "loop.example/g00285/laws.FnExactPutText", spec := "fnExactPutText", apart := false }
def FnExactPutTextSaid : Prop := fnExactPutTextRow.holds Try.pinned (OpenSpec.ofChange fnExactPutTextSpec)

/-- ITS FALSE NEIGHBOUR: 'it returns false'. Refute it at one input. -/
def fnExactPutTextWrong : ChangeSpec := { name := "fnExactPutText", fn := fun _ => fun
  | [d1, d2] => { results := [.lit (.bool false)], args := [d1, d2] }
  | _ => none }
def FnExactPutTextWrongFalsely : Prop := fnExactPutTextRow.holds Try.pinned (OpenSpec.ofChange fnExactPutTextWrong)

/-- 'laws.FnExactInodeOk': WHATEVER THE INPUT: true; the input reads as it did. -/
def fnExactInodeOkSpec : ChangeSpec := { name := "fnExactInodeOk", fn := fun _ => fun
  | [d] => { results := [.lit (.bool true)], args := [d] }
  | _ => none }
def fnExactInodeOkRow : OpenClaim := { program := "ytbidiicccfkanaa", sum := "6c4144a52280cf4ff350c89d862f132202b9e537c449781632ab8f06bde02209", func := "loop.example/g00285/laws.FnExactInodeOk", spec := "fnExactInodeOk", unfollowed := true, recurses := true, apart := false }
def FnExactInodeOkSaid : Prop := fnExactInodeOkRow.holds Try.pinned (OpenSpec.ofChange fnExactInodeOkSpec)

/-- ITS FALSE NEIGHBOUR: 'it returns false'. Refute it at one input. -/
def fnExactInodeOkWrong : ChangeSpec := { name := "fnExactInodeOk", fn := fun _ => fun
  | [d] => { results := [.lit (.bool false)], args := [d] }
  | _ => none }
def FnExactInodeOkWrongFalsely : Prop := fnExactInodeOkRow.holds Try.pinned (OpenSpec.ofChange fnExactInodeOkWrong)

/-- 'laws.FnExactEntOf': WHATEVER THE INPUT: true; the input reads as it did. -/
def fnExactEntOfSpec : ChangeSpec := { name := "fnExactEntOf", fn := fun _ => fun
  | [d1, d2] => { results := [.lit (.bool true)], args := [d1, d2] }
  | _ => none }
def fnExactEntOfRow : OpenClaim := { program := "ytbidiicccfkanaa", sum := "6c4144a52280cf4ff350c89d862f132202b9e537c449781632ab8f06bde02209", func := "loop.example/g00285/laws.FnExactEntOf", spec := "fnExactEntOf", apart := false }
def FnExactEntOfSaid : Prop := fnExactEntOfRow.holds Try.pinned (OpenSpec.ofChange fnExactEntOfSpec)

/-- ITS FALSE NEIGHBOUR: 'it returns false'. Refute it at one input. -/
def fnExactEntOfWrong : ChangeSpec := { name := "fnExactEntOf", fn := fun _ => fun
  | [d1, d2] => { results := [.lit (.bool false)], args := [d1, d2] }
  | _ => none }
def FnExactEntOfWrongFalsely : Prop := fnExactEntOfRow.holds Try.pinned (OpenSpec.ofChange fnExactEntOfWrong)

/-- 'laws.FnExactPutInode': WHATEVER THE INPUT: true; the input reads as it did. -/
def fnExactPutInodeSpec : ChangeSpec := { name := "fnExactPutInode", fn := fun _ => fun
  | [d] => { results := [.lit (.bool true)], args := [d] }
  | _ => none }
def fnExactPutInodeRow : OpenClaim := { program := "ytbidiicccfkanaa", sum := "6c4144a52280cf4ff350c89d862f132202b9e537c449781632ab8f06bde02209", func := "loop.example/g00285/laws.FnExactPutInode", spec := "fnExactPutInode", unfollowed := true, recurses := true, apart := false }
def FnExactPutInodeSaid : Prop := fnExactPutInodeRow.holds Try.pinned (OpenSpec.ofChange fnExactPutInodeSpec)

/-- ITS FALSE NEIGHBOUR: 'it returns false'. Refute it at one input. -/
def fnExactPutInodeWrong : ChangeSpec := { name := "fnExactPutInode", fn := fun _ => fun
  | [d] => { results := [.lit (.bool false)], args := [d] }
  | _ => none }
def FnExactPutInodeWrongFalsely : Prop := fnExactPutInodeRow.holds Try.pinned (OpenSpec.ofChange fnExactPutInodeWrong)

/-- 'laws.FnExactGetInode': WHATEVER THE INPUT: true; the input reads as it did. -/
def fnExactGetInodeSpec : ChangeSpec := { name := "fnExactGetInode", fn := fun _ => fun
  | [d] => { results := [.lit (.bool true)], args := [d] }
  | _ => none }
def fnExactGetInodeRow : OpenClaim := { program := "ytbidiicccfkanaa", sum := "6c4144a52280cf4ff350c89d862f132202b9e537c449781632ab8f06bde02209", func := "loop.example/g00285/laws.FnExactGetInode", spec := "fnExactGetInode", unfollowed := true, recurses := true, apart := false }
def FnExactGetInodeSaid : Prop := fnExactGetInodeRow.holds Try.pinned (OpenSpec.ofChange fnExactGetInodeSpec)

/-- ITS FALSE NEIGHBOUR: 'it returns false'. Refute it at one input. -/
def fnExactGetInodeWrong : ChangeSpec := { name := "fnExactGetInode", fn := fun _ => fun
  | [d] => { results := [.lit (.bool false)], args := [d] }
  | _ => none }
def FnExactGetInodeWrongFalsely : Prop := fnExactGetInodeRow.holds Try.pinned (OpenSpec.ofChange fnExactGetInodeWrong)

/-- 'laws.FnExactSameInode': WHATEVER THE INPUT: true; the input reads as it did. -/
def fnExactSameInodeSpec : ChangeSpec := { name := "fnExactSameInode", fn := fun _ => fun
  | [d1, d2] => { results := [.lit (.bool true)], args := [d1, d2] }
  | _ => none }
def fnExactSameInodeRow : OpenClaim := { program := "ytbidiicccfkanaa", sum := "6c4144a52280cf4ff350c89d862f132202b9e537c449781632ab8f06bde02209", func := "loop.example/g00285/laws.FnExactSameInode", spec := "fnExactSameInode", apart := false }
def FnExactSameInodeSaid : Prop := fnExactSameInodeRow.holds Try.pinned (OpenSpec.ofChange fnExactSameInodeSpec)

/-- ITS FALSE NEIGHBOUR: 'it returns false'. Refute it at one input. -/
def fnExactSameInodeWrong : ChangeSpec := { name := "fnExactSameInode", fn := fun _ => fun
  | [d1, d2] => { results := [.lit (.bool false)], args := [d1, d2] }
  | _ => none }
def FnExactSameInodeWrongFalsely : Prop := fnExactSameInodeRow.holds Try.pinned (OpenSpec.ofChange fnExactSameInodeWrong)

/- THE SECOND FORM. 'bulk': how many values and letters a reading holds, each counted each time it is reached (what is shared counts as often as it is met; a slice's spare places count too). A statement '..UptoSaid' is the law's where the arguments, and the package variables that the reading takes, are together of bulk at most 1048576: NARROWER than '..Said'. Prove '..Said' where nothing that the law and all that it calls make is longer than what came in: it says more and counts as full. Else prove '..UptoSaid'. A law counts once. -/
mutual
def uptoBulk {H : Type} : DataW H → Nat
  | .lit (.string bytes) => bytes.length + 1
  | .lit _ => 1
  | .nil => 1
  | .ptr d => uptoBulk d + 1
  | .slice elems spare => uptoBulkAll elems + uptoBulkAll spare + 1
  | .agg parts => uptoBulkAll parts + 1
  | .iface _ d => uptoBulk d + 1
  | .map entries => uptoBulkEntries entries + 1
  | .held _ => 1
def uptoBulkAll {H : Type} : List (DataW H) → Nat
  | [] => 0
  | d :: r => uptoBulk d + uptoBulkAll r
def uptoBulkEntries {H : Type} : List (Lit × DataW H) → Nat
  | [] => 0
  | x :: r => uptoBulkEntry x + uptoBulkEntries r
def uptoBulkEntry {H : Type} : Lit × DataW H → Nat
  | (.string bytes, d) => bytes.length + uptoBulk d + 1
  | (_, d) => uptoBulk d + 1
 end
def uptoSmall : (H : Type) → List (DataW H) → Bool := fun _ ds => decide (uptoBulkAll ds ≤ 1048576)
def OpenSpec.upto (s : _root_.Go.ChangeSpec) : _root_.Go.OpenSpec := { _root_.Go.OpenSpec.ofChange s with cond := some uptoSmall }

/-- 'laws.FnNums', WHERE WHAT IT READS IS OF BULK AT MOST 1048576: true; the input reads as it did. -/
def fnNumsUptoRow : OpenClaim := { program := "ytbidiicccfkanaa", sum := "6c4144a52280cf4ff350c89d862f132202b9e537c449781632ab8f06bde02209", func := "loop.example/g00285/laws.FnNums", spec := "fnNums", apart := false, narrowed := true }
def FnNumsUptoSaid : Prop := fnNumsUptoRow.holds Try.pinned (OpenSpec.upto fnNumsSpec)

/-- 'laws.FnInodes', WHERE WHAT IT READS IS OF BULK AT MOST 1048576: true; the input reads as it did. -/
def fnInodesUptoRow : OpenClaim := { program := "ytbidiicccfkanaa", sum := "6c4144a52280cf4ff350c89d862f132202b9e537c449781632ab8f06bde02209", func := "loop.example/g00285/laws.FnInodes", spec := "fnInodes", unfollowed := true, recurses := true, apart := false, narrowed := true }
def FnInodesUptoSaid : Prop := fnInodesUptoRow.holds Try.pinned (OpenSpec.upto fnInodesSpec)

/-- 'laws.FnInodesRead', WHERE WHAT IT READS IS OF BULK AT MOST 1048576: true; the input reads as it did. -/
def fnInodesReadUptoRow : OpenClaim := { program := "ytbidiicccfkanaa", sum := "6c4144a52280cf4ff350c89d862f132202b9e537c449781632ab8f06bde02209", func := "loop.example/g00285/laws.FnInodesRead", spec := "fnInodesRead", unfollowed := true, recurses := true, apart := false, narrowed := true }
def FnInodesReadUptoSaid : Prop := fnInodesReadUptoRow.holds Try.pinned (OpenSpec.upto fnInodesReadSpec)

/-- 'laws.FnExactPutText', WHERE WHAT IT READS IS OF BULK AT MOST 1048576: true; the input reads as it did. -/
def fnExactPutTextUptoRow : OpenClaim := { program := "ytbidiicccfkanaa", sum := "6c4144a52280cf4ff350c89d862f132202b9e537c449781632ab8f06bde02209", func := "loop.example/g00285/laws.FnExactPutText", spec := "fnExactPutText", apart := false, narrowed := true }
def FnExactPutTextUptoSaid : Prop := fnExactPutTextUptoRow.holds Try.pinned (OpenSpec.upto fnExactPutTextSpec)

/-- 'laws.FnExactInodeOk', WHERE WHAT IT READS IS OF BULK AT MOST 1048576: true; the input reads as it did. -/
def fnExactInodeOkUptoRow : OpenClaim := { program := "ytbidiicccfkanaa", sum := "6c4144a52280cf4ff350c89d862f132202b9e537c449781632ab8f06bde02209", func := "loop.example/g00285/laws.FnExactInodeOk", spec := "fnExactInodeOk", unfollowed := true, recurses := true, apart := false, narrowed := true }
def FnExactInodeOkUptoSaid : Prop := fnExactInodeOkUptoRow.holds Try.pinned (OpenSpec.upto fnExactInodeOkSpec)

/-- 'laws.FnExactEntOf', WHERE WHAT IT READS IS OF BULK AT MOST 1048576: true; the input reads as it did. -/
def fnExactEntOfUptoRow : OpenClaim := { program := "ytbidiicccfkanaa", sum := "6c4144a52280cf4ff350c89d862f132202b9e537c449781632ab8f06bde02209", func := "loop.example/g00285/laws.FnExactEntOf", spec := "fnExactEntOf", apart := false, narrowed := true }
def FnExactEntOfUptoSaid : Prop := fnExactEntOfUptoRow.holds Try.pinned (OpenSpec.upto fnExactEntOfSpec)

/-- 'laws.FnExactPutInode', WHERE WHAT IT READS IS OF BULK AT MOST 1048576: true; the input reads as it did. -/
def fnExactPutInodeUptoRow : OpenClaim := { program := "ytbidiicccfkanaa", sum := "6c4144a52280cf4ff350c89d862f132202b9e537c449781632ab8f06bde02209", func := "loop.example/g00285/laws.FnExactPutInode", spec := "fnExactPutInode", unfollowed := true, recurses := true, apart := false, narrowed := true }
def FnExactPutInodeUptoSaid : Prop := fnExactPutInodeUptoRow.holds Try.pinned (OpenSpec.upto fnExactPutInodeSpec)

/-- 'laws.FnExactGetInode', WHERE WHAT IT READS IS OF BULK AT MOST 1048576: true; the input reads as it did. -/
def fnExactGetInodeUptoRow : OpenClaim := { program := "ytbidiicccfkanaa", sum := "6c4144a52280cf4ff350c89d862f132202b9e537c449781632ab8f06bde02209", func := "loop.example/g00285/laws.FnExactGetInode", spec := "fnExactGetInode", unfollowed := true, recurses := true, apart := false, narrowed := true }
def FnExactGetInodeUptoSaid : Prop := fnExactGetInodeUptoRow.holds Try.pinned (OpenSpec.upto fnExactGetInodeSpec)

/-- 'laws.FnExactSameInode', WHERE WHAT IT READS IS OF BULK AT MOST 1048576: true; the input reads as it did. -/
def fnExactSameInodeUptoRow : OpenClaim := { program := "ytbidiicccfkanaa", sum := "6c4144a52280cf4ff350c89d862f132202b9e537c449781632ab8f06bde02209", func := "loop.example/g00285/laws.FnExactSameInode", spec := "fnExactSameInode", apart := false, narrowed := true }
def FnExactSameInodeUptoSaid : Prop := fnExactSameInodeUptoRow.holds Try.pinned (OpenSpec.upto fnExactSameInodeSpec)

end Rows
end Go.Proofs.Ytbidiicccfkanaa
