/-
  No cell of these rows narrows 'for every input' (looked for: loops, veiled, ifaces, maps, wideKeys, modest, calm, conditions, laid).
  DERIVED. THE GIVEN ROWS OF THIS SEAT. 10 by the template 'for every input the law returns true; each argument reads behind the call as it read before'; 0 by the template 'total and deterministic' (their statements: YtnllhpeddoaehaaTotals.lean).
  GIVEN WITH THE SEED: the statements are not yours to turn. If you find one false, say at which input.
  Laid BY PROGRAM, IN A SANDBOX (cutbox-rows.mjs): the forced cells as the released guide's own fill.sh prints them over the translation 1d72eb28c8acc14f… (all of the seat's roots in one cut). By AI agents, Wed Nov 11 2026. No macro, syntax, notation, axiom, sorry.
-/
import Derived.Test.YtnllhpeddoaehaaChecked
import GoSem.Claim
import GoSem.ClaimJoined
import GoSem.ClaimMapViews
import Derived.JoinedTies
import Derived.KernelRfl
namespace Go.Proofs.Ytnllhpeddoaehaa
/- THE CELL 'sum', in the pinned program and in every row, IS THE sha256 OF THE DUMP (.gsa) THAT YtnllhpeddoaehaaProg.lean LOADS. Nothing in Lean hashes anything: it is a label: what it is worth is what the hold of that sum in a sandbox is worth. -/
noncomputable def Try.pinned : Pinned := { name := "ytnllhpeddoaehaa", sum := "1d72eb28c8acc14fe155d7dd6c9a4af31918aeff426c301fc83008aae7689e81", checked := Try.checked }
namespace Rows
def none {H : Type} : Left H := { results := [], args := [] }

/-- 'laws.FnInodes': WHATEVER THE INPUT: true; the input reads as it did. -/
def fnInodesSpec : ChangeSpec := { name := "fnInodes", fn := fun _ => fun
  | [d] => { results := [.lit (.bool true)], args := [d] }
  | _ => none }
def fnInodesRow : OpenClaim := { program := "ytnllhpeddoaehaa", sum := "1d72eb28c8acc14fe155d7dd6c9a4af31918aeff426c301fc83008aae7689e81", func := "loop.example/g00285/laws.FnInodes", spec := "fnInodes", unfollowed := true, recurses := true, apart := false }
def FnInodesSaid : Prop := fnInodesRow.holds Try.pinned (OpenSpec.ofChange fnInodesSpec)

/-- ITS FALSE NEIGHBOUR: 'it returns false'. Refute it at one input. -/
def fnInodesWrong : ChangeSpec := { name := "fnInodes", fn := fun _ => fun
  | [d] => { results := [.lit (.bool false)], args := [d] }
  | _ => none }
def FnInodesWrongFalsely : Prop := fnInodesRow.holds Try.pinned (OpenSpec.ofChange fnInodesWrong)

/-- 'laws.FnInodesRead': WHATEVER THE INPUT: true; the input reads as it did. -/
def fnInodesReadSpec : ChangeSpec := { name := "fnInodesRead", fn := fun _ => fun
  | [d] => { results := [.lit (.bool true)], args := [d] }
  | _ => none }
def fnInodesReadRow : OpenClaim := { program := "ytnllhpeddoaehaa", sum := "1d72eb28c8acc14fe155d7dd6c9a4af31918aeff426c301fc83008aae7689e81", func := "loop.example/g00285/laws.FnInodesRead", spec := "fnInodesRead", unfollowed := true, recurses := true, apart := false }
def FnInodesReadSaid : Prop := fnInodesReadRow.holds Try.pinned (OpenSpec.ofChange fnInodesReadSpec)

/-- ITS FALSE NEIGHBOUR: 'it returns false'. Refute it at one input. -/
def fnInodesReadWrong : ChangeSpec := { name := "fnInodesRead", fn := fun _ => fun
  | [d] => { results := [.lit (.bool false)], args := [d] }
  | _ => none }
def FnInodesReadWrongFalsely : Prop := fnInodesReadRow.holds Try.pinned (OpenSpec.ofChange fnInodesReadWrong)

/-- 'laws.FnTabs': WHATEVER THE INPUT: true; the input reads as it did. -/
def fnTabsSpec : ChangeSpec := { name := "fnTabs", fn := fun _ => fun
  | [d] => { results := [.lit (.bool true)], args := [d] }
  | _ => none }
def fnTabsRow : OpenClaim := { program := "ytnllhpeddoaehaa", sum := "1d72eb28c8acc14fe155d7dd6c9a4af31918aeff426c301fc83008aae7689e81", func := "loop.example/g00285/laws.FnTabs", spec := "fnTabs", inPlace := ["slices.overlaps[loop.example/g00285/impl.Inode]"], unfollowed := true, recurses := true, apart := false }
def FnTabsSaid : Prop := fnTabsRow.holds Try.pinned (OpenSpec.ofChange fnTabsSpec)

/-- ITS FALSE NEIGHBOUR: 'it returns false'. Refute it at one input. -/
def fnTabsWrong : ChangeSpec := { name := "fnTabs", fn := fun _ => fun
  | [d] => { results := [.lit (.bool false)], args := [d] }
  | _ => none }
def FnTabsWrongFalsely : Prop := fnTabsRow.holds Try.pinned (OpenSpec.ofChange fnTabsWrong)

/-- 'laws.FnExactGetInode': WHATEVER THE INPUT: true; the input reads as it did. -/
def fnExactGetInodeSpec : ChangeSpec := { name := "fnExactGetInode", fn := fun _ => fun
  | [d] => { results := [.lit (.bool true)], args := [d] }
  | _ => none }
def fnExactGetInodeRow : OpenClaim := { program := "ytnllhpeddoaehaa", sum := "1d72eb28c8acc14fe155d7dd6c9a4af31918aeff426c301fc83008aae7689e81", func := "loop.example/g00285/laws.FnExactGetInode", spec := "fnExactGetInode", unfollowed := true, recurses := true, apart := false }
def FnExactGetInodeSaid : Prop := fnExactGetInodeRow.holds Try.pinned (OpenSpec.ofChange fnExactGetInodeSpec)

/-- ITS FALSE NEIGHBOUR: 'it returns false'. Refute it at one input. -/
def fnExactGetInodeWrong : ChangeSpec := { name := "fnExactGetInode", fn := fun _ => fun
  | [d] => { results := [.lit (.bool false)], args := [d] }
  | _ => none }
def FnExactGetInodeWrongFalsely : Prop := fnExactGetInodeRow.holds Try.pinned (OpenSpec.ofChange fnExactGetInodeWrong)

/-- 'laws.FnExactTabNew': WHATEVER THE INPUT: true; the input reads as it did. -/
def fnExactTabNewSpec : ChangeSpec := { name := "fnExactTabNew", fn := fun _ => fun
  | [] => { results := [.lit (.bool true)], args := [] }
  | _ => none }
def fnExactTabNewRow : OpenClaim := { program := "ytnllhpeddoaehaa", sum := "1d72eb28c8acc14fe155d7dd6c9a4af31918aeff426c301fc83008aae7689e81", func := "loop.example/g00285/laws.FnExactTabNew", spec := "fnExactTabNew", apart := false }
def FnExactTabNewSaid : Prop := fnExactTabNewRow.holds Try.pinned (OpenSpec.ofChange fnExactTabNewSpec)

/-- ITS FALSE NEIGHBOUR: 'it returns false'. Refute it at one input. -/
def fnExactTabNewWrong : ChangeSpec := { name := "fnExactTabNew", fn := fun _ => fun
  | [] => { results := [.lit (.bool false)], args := [] }
  | _ => none }
def FnExactTabNewWrongFalsely : Prop := fnExactTabNewRow.holds Try.pinned (OpenSpec.ofChange fnExactTabNewWrong)

/-- 'laws.FnExactTabOk': WHATEVER THE INPUT: true; the input reads as it did. -/
def fnExactTabOkSpec : ChangeSpec := { name := "fnExactTabOk", fn := fun _ => fun
  | [d] => { results := [.lit (.bool true)], args := [d] }
  | _ => none }
def fnExactTabOkRow : OpenClaim := { program := "ytnllhpeddoaehaa", sum := "1d72eb28c8acc14fe155d7dd6c9a4af31918aeff426c301fc83008aae7689e81", func := "loop.example/g00285/laws.FnExactTabOk", spec := "fnExactTabOk", unfollowed := true, recurses := true, apart := false }
def FnExactTabOkSaid : Prop := fnExactTabOkRow.holds Try.pinned (OpenSpec.ofChange fnExactTabOkSpec)

/-- ITS FALSE NEIGHBOUR: 'it returns false'. Refute it at one input. -/
def fnExactTabOkWrong : ChangeSpec := { name := "fnExactTabOk", fn := fun _ => fun
  | [d] => { results := [.lit (.bool false)], args := [d] }
  | _ => none }
def FnExactTabOkWrongFalsely : Prop := fnExactTabOkRow.holds Try.pinned (OpenSpec.ofChange fnExactTabOkWrong)

/-- 'laws.FnExactInodeAt': WHATEVER THE INPUT: true; the input reads as it did. -/
def fnExactInodeAtSpec : ChangeSpec := { name := "fnExactInodeAt", fn := fun _ => fun
  | [d1, d2] => { results := [.lit (.bool true)], args := [d1, d2] }
  | _ => none }
def fnExactInodeAtRow : OpenClaim := { program := "ytnllhpeddoaehaa", sum := "1d72eb28c8acc14fe155d7dd6c9a4af31918aeff426c301fc83008aae7689e81", func := "loop.example/g00285/laws.FnExactInodeAt", spec := "fnExactInodeAt", apart := false }
def FnExactInodeAtSaid : Prop := fnExactInodeAtRow.holds Try.pinned (OpenSpec.ofChange fnExactInodeAtSpec)

/-- ITS FALSE NEIGHBOUR: 'it returns false'. Refute it at one input. -/
def fnExactInodeAtWrong : ChangeSpec := { name := "fnExactInodeAt", fn := fun _ => fun
  | [d1, d2] => { results := [.lit (.bool false)], args := [d1, d2] }
  | _ => none }
def FnExactInodeAtWrongFalsely : Prop := fnExactInodeAtRow.holds Try.pinned (OpenSpec.ofChange fnExactInodeAtWrong)

/-- 'laws.FnExactSetInode': WHATEVER THE INPUT: true; the input reads as it did. -/
def fnExactSetInodeSpec : ChangeSpec := { name := "fnExactSetInode", fn := fun _ => fun
  | [d1, d2] => { results := [.lit (.bool true)], args := [d1, d2] }
  | _ => none }
def fnExactSetInodeRow : OpenClaim := { program := "ytnllhpeddoaehaa", sum := "1d72eb28c8acc14fe155d7dd6c9a4af31918aeff426c301fc83008aae7689e81", func := "loop.example/g00285/laws.FnExactSetInode", spec := "fnExactSetInode", inPlace := ["slices.overlaps[loop.example/g00285/impl.Inode]"], unfollowed := true, recurses := true, apart := false }
def FnExactSetInodeSaid : Prop := fnExactSetInodeRow.holds Try.pinned (OpenSpec.ofChange fnExactSetInodeSpec)

/-- ITS FALSE NEIGHBOUR: 'it returns false'. Refute it at one input. -/
def fnExactSetInodeWrong : ChangeSpec := { name := "fnExactSetInode", fn := fun _ => fun
  | [d1, d2] => { results := [.lit (.bool false)], args := [d1, d2] }
  | _ => none }
def FnExactSetInodeWrongFalsely : Prop := fnExactSetInodeRow.holds Try.pinned (OpenSpec.ofChange fnExactSetInodeWrong)

/-- 'laws.FnExactDropInode': WHATEVER THE INPUT: true; the input reads as it did. -/
def fnExactDropInodeSpec : ChangeSpec := { name := "fnExactDropInode", fn := fun _ => fun
  | [d1, d2] => { results := [.lit (.bool true)], args := [d1, d2] }
  | _ => none }
def fnExactDropInodeRow : OpenClaim := { program := "ytnllhpeddoaehaa", sum := "1d72eb28c8acc14fe155d7dd6c9a4af31918aeff426c301fc83008aae7689e81", func := "loop.example/g00285/laws.FnExactDropInode", spec := "fnExactDropInode", apart := false }
def FnExactDropInodeSaid : Prop := fnExactDropInodeRow.holds Try.pinned (OpenSpec.ofChange fnExactDropInodeSpec)

/-- ITS FALSE NEIGHBOUR: 'it returns false'. Refute it at one input. -/
def fnExactDropInodeWrong : ChangeSpec := { name := "fnExactDropInode", fn := fun _ => fun
  | [d1, d2] => { results := [.lit (.bool false)], args := [d1, d2] }
  | _ => none }
def FnExactDropInodeWrongFalsely : Prop := fnExactDropInodeRow.holds Try.pinned (OpenSpec.ofChange fnExactDropInodeWrong)

/-- 'laws.FnExactSameTab': WHATEVER THE INPUT: true; the input reads as it did. -/
def fnExactSameTabSpec : ChangeSpec := { name := "fnExactSameTab", fn := fun _ => fun
  | [d1, d2] => { results := [.lit (.bool true)], args := [d1, d2] }
  | _ => none }
def fnExactSameTabRow : OpenClaim := { program := "ytnllhpeddoaehaa", sum := "1d72eb28c8acc14fe155d7dd6c9a4af31918aeff426c301fc83008aae7689e81", func := "loop.example/g00285/laws.FnExactSameTab", spec := "fnExactSameTab", unfollowed := true, recurses := true, apart := false }
def FnExactSameTabSaid : Prop := fnExactSameTabRow.holds Try.pinned (OpenSpec.ofChange fnExactSameTabSpec)

/-- ITS FALSE NEIGHBOUR: 'it returns false'. Refute it at one input. -/
def fnExactSameTabWrong : ChangeSpec := { name := "fnExactSameTab", fn := fun _ => fun
  | [d1, d2] => { results := [.lit (.bool false)], args := [d1, d2] }
  | _ => none }
def FnExactSameTabWrongFalsely : Prop := fnExactSameTabRow.holds Try.pinned (OpenSpec.ofChange fnExactSameTabWrong)

/- THE SECOND FORM. 'bulk': how many values and letters a reading holds, each counted each time it is reached (what is shared counts as often as it is met; a slice's spare places count too). A statement '..UptoSaid' is the law's where the arguments, and the package variables that the reading takes, are together of bulk at most 1048576: NARROWER than '..Said'. Prove '..Said' where nothing that the law and all that it calls make is longer than what came in: it says more and counts as full. Else prove '..UptoSaid'. A law counts once. -/
mutual
def uptoBulk {H : Type} : DataW H → Nat
  | .lit (.string bytes) => bytes.length + 1
  | .lit _ => 1
  | .nil => 1
  | .ptr d => uptoBulk d + 1
  | .slice elems spare => uptoBulkAll elems + uptoBulkAll spare + 1
  | .agg parts => uptoBulkAll parts + 1
  | .iface _ d => uptoBulk d + 1
  | .map entries => uptoBulkEntries entries + 1
  | .held _ => 1
def uptoBulkAll {H : Type} : List (DataW H) → Nat
  | [] => 0
  | d :: r => uptoBulk d + uptoBulkAll r
def uptoBulkEntries {H : Type} : List (Lit × DataW H) → Nat
  | [] => 0
  | x :: r => uptoBulkEntry x + uptoBulkEntries r
def uptoBulkEntry {H : Type} : Lit × DataW H → Nat
  | (.string bytes, d) => bytes.length + uptoBulk d + 1
  | (_, d) => uptoBulk d + 1
 end
def uptoSmall : (H : Type) → List (DataW H) → Bool := fun _ ds => decide (uptoBulkAll ds ≤ 1048576)
def OpenSpec.upto (s : _root_.Go.ChangeSpec) : _root_.Go.OpenSpec := { _root_.Go.OpenSpec.ofChange s with cond := some uptoSmall }

/-- 'laws.FnInodes', WHERE WHAT IT READS IS OF BULK AT MOST 1048576: true; the input reads as it did. -/
def fnInodesUptoRow : OpenClaim := { program := "ytnllhpeddoaehaa", sum := "1d72eb28c8acc14fe155d7dd6c9a4af31918aeff426c301fc83008aae7689e81", func := "loop.example/g00285/laws.FnInodes", spec := "fnInodes", unfollowed := true, recurses := true, apart := false, narrowed := true }
def FnInodesUptoSaid : Prop := fnInodesUptoRow.holds Try.pinned (OpenSpec.upto fnInodesSpec)

/-- 'laws.FnInodesRead', WHERE WHAT IT READS IS OF BULK AT MOST 1048576: true; the input reads as it did. -/
def fnInodesReadUptoRow : OpenClaim := { program := "ytnllhpeddoaehaa", sum := "1d72eb28c8acc14fe155d7dd6c9a4af31918aeff426c301fc83008aae7689e81", func := "loop.example/g00285/laws.FnInodesRead", spec := "fnInodesRead", unfollowed := true, recurses := true, apart := false, narrowed := true }
def FnInodesReadUptoSaid : Prop := fnInodesReadUptoRow.holds Try.pinned (OpenSpec.upto fnInodesReadSpec)

/-- 'laws.FnTabs', WHERE WHAT IT READS IS OF BULK AT MOST 1048576: true; the input reads as it did. -/
def fnTabsUptoRow : OpenClaim := { program := "ytnllhpeddoaehaa", sum := "1d72eb28c8acc14fe155d7dd6c9a4af31918aeff426c301fc83008aae7689e81", func := "loop.example/g00285/laws.FnTabs", spec := "fnTabs", inPlace := ["slices.overlaps[loop.example/g00285/impl.Inode]"], unfollowed := true, recurses := true, apart := false, narrowed := true }
def FnTabsUptoSaid : Prop := fnTabsUptoRow.holds Try.pinned (OpenSpec.upto fnTabsSpec)

/-- 'laws.FnExactGetInode', WHERE WHAT IT READS IS OF BULK AT MOST 1048576: true; the input reads as it did. -/
def fnExactGetInodeUptoRow : OpenClaim := { program := "ytnllhpeddoaehaa", sum := "1d72eb28c8acc14fe155d7dd6c9a4af31918aeff426c301fc83008aae7689e81", func := "loop.example/g00285/laws.FnExactGetInode", spec := "fnExactGetInode", unfollowed := true, recurses := true, apart := false, narrowed := true }
def FnExactGetInodeUptoSaid : Prop := fnExactGetInodeUptoRow.holds Try.pinned (OpenSpec.upto fnExactGetInodeSpec)

/-- 'laws.FnExactTabNew', WHERE WHAT IT READS IS OF BULK AT MOST 1048576: true; the input reads as it did. -/
def fnExactTabNewUptoRow : OpenClaim := { program := "ytnllhpeddoaehaa", sum := "1d72eb28c8acc14fe155d7dd6c9a4af31918aeff426c301fc83008aae7689e81", func := "loop.example/g00285/laws.FnExactTabNew", spec := "fnExactTabNew", apart := false, narrowed := true }
def FnExactTabNewUptoSaid : Prop := fnExactTabNewUptoRow.holds Try.pinned (OpenSpec.upto fnExactTabNewSpec)

/-- 'laws.FnExactTabOk', WHERE WHAT IT READS IS OF BULK AT MOST 1048576: true; the input reads as it did. -/
def fnExactTabOkUptoRow : OpenClaim := { program := "ytnllhpeddoaehaa", sum := "1d72eb28c8acc14fe155d7dd6c9a4af31918aeff426c301fc83008aae7689e81", func := "loop.example/g00285/laws.FnExactTabOk", spec := "fnExactTabOk", unfollowed := true, recurses := true, apart := false, narrowed := true }
def FnExactTabOkUptoSaid : Prop := fnExactTabOkUptoRow.holds Try.pinned (OpenSpec.upto fnExactTabOkSpec)

/-- 'laws.FnExactInodeAt', WHERE WHAT IT READS IS OF BULK AT MOST 1048576: true; the input reads as it did. -/
def fnExactInodeAtUptoRow : OpenClaim := { program := "ytnllhpeddoaehaa", sum := "1d72eb28c8acc14fe155d7dd6c9a4af31918aeff426c301fc83008aae7689e81", func := "loop.example/g00285/laws.FnExactInodeAt", spec := "fnExactInodeAt", apart := false, narrowed := true }
def FnExactInodeAtUptoSaid : Prop := fnExactInodeAtUptoRow.holds Try.pinned (OpenSpec.upto fnExactInodeAtSpec)

/-- 'laws.FnExactSetInode', WHERE WHAT IT READS IS OF BULK AT MOST 1048576: true; the input reads as it did. -/
def fnExactSetInodeUptoRow : OpenClaim := { program := "ytnllhpeddoaehaa", sum := "1d72eb28c8acc14fe155d7dd6c9a4af31918aeff426c301fc83008aae7689e81", func := "loop.example/g00285/laws.FnExactSetInode", spec := "fnExactSetInode", inPlace := ["slices.overlaps[loop.example/g00285/impl.Inode]"], unfollowed := true, recurses := true, apart := false, narrowed := true }
def FnExactSetInodeUptoSaid : Prop := fnExactSetInodeUptoRow.holds Try.pinned (OpenSpec.upto fnExactSetInodeSpec)

/-- 'laws.FnExactDropInode', WHERE WHAT IT READS IS OF BULK AT MOST 1048576: true; the input reads as it did. -/
def fnExactDropInodeUptoRow : OpenClaim := { program := "ytnllhpeddoaehaa", sum := "1d72eb28c8acc14fe155d7dd6c9a4af31918aeff426c301fc83008aae7689e81", func := "loop.example/g00285/laws.FnExactDropInode", spec := "fnExactDropInode", apart := false, narrowed := true }
def FnExactDropInodeUptoSaid : Prop := fnExactDropInodeUptoRow.holds Try.pinned (OpenSpec.upto fnExactDropInodeSpec)

/-- 'laws.FnExactSameTab', WHERE WHAT IT READS IS OF BULK AT MOST 1048576: true; the input reads as it did. -/
def fnExactSameTabUptoRow : OpenClaim := { program := "ytnllhpeddoaehaa", sum := "1d72eb28c8acc14fe155d7dd6c9a4af31918aeff426c301fc83008aae7689e81", func := "loop.example/g00285/laws.FnExactSameTab", spec := "fnExactSameTab", unfollowed := true, recurses := true, apart := false, narrowed := true }
def FnExactSameTabUptoSaid : Prop := fnExactSameTabUptoRow.holds Try.pinned (OpenSpec.upto fnExactSameTabSpec)

end Rows
end Go.Proofs.Ytnllhpeddoaehaa
