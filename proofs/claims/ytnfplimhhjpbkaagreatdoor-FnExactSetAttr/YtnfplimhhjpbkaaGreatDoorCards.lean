/-
  DERIVED. GIVEN WITH THE SEED: THE CARDS: each row of YtnfplimhhjpbkaaGreatDoorRows.lean that lists a variable, with what it lists TIED to the program's text (the seventh form; the later family's looks); each row that meets fmt, with fmt's text TOLD by the authors' own Lean function (tested against real Go, not proved from fmt's source: count such statements apart). THE CARD IS WHAT COUNTS. Prove the row's statement (the work); the ties are given (YtnfplimhhjpbkaaGreatDoorTie.lean); close each card by the builder's one call (the guide's Derived/Test/ToyasCard.lean, 'card_holds'). Laid BY PROGRAM, IN A SANDBOX (cutbox-door.mjs). By AI agents, Wed Nov 11 2026. No macro, syntax, notation, axiom, sorry.
-/
import Derived.Test.YtnfplimhhjpbkaaGreatDoorRows
import GoSem.ClaimSeven
namespace Go.Proofs.YtnfplimhhjpbkaaGreatDoor
namespace Rows

/-- THE TIED CARD OF 'laws.FnNewTabs'. -/
def fnNewTabsCard : Claim7 := { stood := { row := fnNewTabsRow, standIns := [], harness := (true, "e161a24b231af597ff36777bec14476717d0121e227b05920cec0256664223d3"), looks := true }, kinds := [], alts := [], laidByText := true, laidKinds := [.handle], laidTests := true, laidLooks := .later }
def FnNewTabsCardSaid : Prop := Claim7.holds Tryz.pinned (.plain (OpenSpec.ofChange fnNewTabsSpec)) fnNewTabsCard

/-- THE TIED CARD OF 'laws.FnTreesBent'. -/
def fnTreesBentCard : Claim7 := { stood := { row := fnTreesBentRow, standIns := [], harness := (true, "e161a24b231af597ff36777bec14476717d0121e227b05920cec0256664223d3"), looks := true }, kinds := [], alts := [], laidByText := true, laidKinds := [.handle], laidTests := true, laidLooks := .later }
def FnTreesBentCardSaid : Prop := Claim7.holds Tryz.pinned (.plain (OpenSpec.ofChange fnTreesBentSpec)) fnTreesBentCard

/-- THE TIED CARD OF 'laws.FnRootStays'. -/
def fnRootStaysCard : Claim7 := { stood := { row := fnRootStaysRow, standIns := [], harness := (true, "e161a24b231af597ff36777bec14476717d0121e227b05920cec0256664223d3"), looks := true }, kinds := [], alts := [], laidByText := true, laidKinds := [.handle], laidTests := true, laidLooks := .later }
def FnRootStaysCardSaid : Prop := Claim7.holds Tryz.pinned (.plain (OpenSpec.ofChange fnRootStaysSpec)) fnRootStaysCard

/-- THE TIED CARD OF 'laws.FnExactMakeDir'. -/
def fnExactMakeDirCard : Claim7 := { stood := { row := fnExactMakeDirRow, standIns := [], harness := (true, "e161a24b231af597ff36777bec14476717d0121e227b05920cec0256664223d3"), looks := true }, kinds := [], alts := [], laidByText := true, laidKinds := [.handle], laidTests := true, laidLooks := .later }
def FnExactMakeDirCardSaid : Prop := Claim7.holds Tryz.pinned (.plain (OpenSpec.ofChange fnExactMakeDirSpec)) fnExactMakeDirCard

/-- THE TIED CARD OF 'laws.FnExactMakeFile'. -/
def fnExactMakeFileCard : Claim7 := { stood := { row := fnExactMakeFileRow, standIns := [], harness := (true, "e161a24b231af597ff36777bec14476717d0121e227b05920cec0256664223d3"), looks := true }, kinds := [], alts := [], laidByText := true, laidKinds := [.handle], laidTests := true, laidLooks := .later }
def FnExactMakeFileCardSaid : Prop := Claim7.holds Tryz.pinned (.plain (OpenSpec.ofChange fnExactMakeFileSpec)) fnExactMakeFileCard

/-- THE TIED CARD OF 'laws.FnExactWriteAt'. -/
def fnExactWriteAtCard : Claim7 := { stood := { row := fnExactWriteAtRow, standIns := [], harness := (true, "e161a24b231af597ff36777bec14476717d0121e227b05920cec0256664223d3"), looks := true }, kinds := [], alts := [], laidByText := true, laidKinds := [.handle], laidTests := true, laidLooks := .later }
def FnExactWriteAtCardSaid : Prop := Claim7.holds Tryz.pinned (.plain (OpenSpec.ofChange fnExactWriteAtSpec)) fnExactWriteAtCard

/-- THE TIED CARD OF 'laws.FnExactTruncate'. -/
def fnExactTruncateCard : Claim7 := { stood := { row := fnExactTruncateRow, standIns := [], harness := (true, "e161a24b231af597ff36777bec14476717d0121e227b05920cec0256664223d3"), looks := true }, kinds := [], alts := [], laidByText := true, laidKinds := [.handle], laidTests := true, laidLooks := .later }
def FnExactTruncateCardSaid : Prop := Claim7.holds Tryz.pinned (.plain (OpenSpec.ofChange fnExactTruncateSpec)) fnExactTruncateCard

/-- THE TIED CARD OF 'laws.FnExactUnlink'. -/
def fnExactUnlinkCard : Claim7 := { stood := { row := fnExactUnlinkRow, standIns := [], harness := (true, "e161a24b231af597ff36777bec14476717d0121e227b05920cec0256664223d3"), looks := true }, kinds := [], alts := [], laidByText := true, laidKinds := [.handle], laidTests := true, laidLooks := .later }
def FnExactUnlinkCardSaid : Prop := Claim7.holds Tryz.pinned (.plain (OpenSpec.ofChange fnExactUnlinkSpec)) fnExactUnlinkCard

/-- THE TIED CARD OF 'laws.FnExactRemoveDir'. -/
def fnExactRemoveDirCard : Claim7 := { stood := { row := fnExactRemoveDirRow, standIns := [], harness := (true, "e161a24b231af597ff36777bec14476717d0121e227b05920cec0256664223d3"), looks := true }, kinds := [], alts := [], laidByText := true, laidKinds := [.handle], laidTests := true, laidLooks := .later }
def FnExactRemoveDirCardSaid : Prop := Claim7.holds Tryz.pinned (.plain (OpenSpec.ofChange fnExactRemoveDirSpec)) fnExactRemoveDirCard

/-- THE TIED CARD OF 'laws.FnExactHardLink'. -/
def fnExactHardLinkCard : Claim7 := { stood := { row := fnExactHardLinkRow, standIns := [], harness := (true, "e161a24b231af597ff36777bec14476717d0121e227b05920cec0256664223d3"), looks := true }, kinds := [], alts := [], laidByText := true, laidKinds := [.handle], laidTests := true, laidLooks := .later }
def FnExactHardLinkCardSaid : Prop := Claim7.holds Tryz.pinned (.plain (OpenSpec.ofChange fnExactHardLinkSpec)) fnExactHardLinkCard

/-- THE TIED CARD OF 'laws.FnExactRename'. -/
def fnExactRenameCard : Claim7 := { stood := { row := fnExactRenameRow, standIns := [], harness := (true, "e161a24b231af597ff36777bec14476717d0121e227b05920cec0256664223d3"), looks := true }, kinds := [], alts := [], laidByText := true, laidKinds := [.handle], laidTests := true, laidLooks := .later }
def FnExactRenameCardSaid : Prop := Claim7.holds Tryz.pinned (.plain (OpenSpec.ofChange fnExactRenameSpec)) fnExactRenameCard

/-- THE TIED CARD OF 'laws.FnExactSetAttr'. -/
def fnExactSetAttrCard : Claim7 := { stood := { row := fnExactSetAttrRow, standIns := [], harness := (true, "e161a24b231af597ff36777bec14476717d0121e227b05920cec0256664223d3"), looks := true }, kinds := [], alts := [], laidByText := true, laidKinds := [.handle], laidTests := true, laidLooks := .later }
def FnExactSetAttrCardSaid : Prop := Claim7.holds Tryz.pinned (.plain (OpenSpec.ofChange fnExactSetAttrSpec)) fnExactSetAttrCard

/-- THE SECOND FORM's CARD OF 'laws.FnNewTabs'. -/
def fnNewTabsUptoCard : Claim7 := { stood := { row := fnNewTabsUptoRow, standIns := [], harness := (true, "e161a24b231af597ff36777bec14476717d0121e227b05920cec0256664223d3"), looks := true }, kinds := [], alts := [], laidByText := true, laidKinds := [.handle], laidTests := true, laidLooks := .later }
def FnNewTabsUptoCardSaid : Prop := Claim7.holds Tryz.pinned (.plain (OpenSpec.upto fnNewTabsSpec)) fnNewTabsUptoCard

/-- THE SECOND FORM's CARD OF 'laws.FnTreesBent'. -/
def fnTreesBentUptoCard : Claim7 := { stood := { row := fnTreesBentUptoRow, standIns := [], harness := (true, "e161a24b231af597ff36777bec14476717d0121e227b05920cec0256664223d3"), looks := true }, kinds := [], alts := [], laidByText := true, laidKinds := [.handle], laidTests := true, laidLooks := .later }
def FnTreesBentUptoCardSaid : Prop := Claim7.holds Tryz.pinned (.plain (OpenSpec.upto fnTreesBentSpec)) fnTreesBentUptoCard

/-- THE SECOND FORM's CARD OF 'laws.FnRootStays'. -/
def fnRootStaysUptoCard : Claim7 := { stood := { row := fnRootStaysUptoRow, standIns := [], harness := (true, "e161a24b231af597ff36777bec14476717d0121e227b05920cec0256664223d3"), looks := true }, kinds := [], alts := [], laidByText := true, laidKinds := [.handle], laidTests := true, laidLooks := .later }
def FnRootStaysUptoCardSaid : Prop := Claim7.holds Tryz.pinned (.plain (OpenSpec.upto fnRootStaysSpec)) fnRootStaysUptoCard

/-- THE SECOND FORM's CARD OF 'laws.FnExactMakeDir'. -/
def fnExactMakeDirUptoCard : Claim7 := { stood := { row := fnExactMakeDirUptoRow, standIns := [], harness := (true, "e161a24b231af597ff36777bec14476717d0121e227b05920cec0256664223d3"), looks := true }, kinds := [], alts := [], laidByText := true, laidKinds := [.handle], laidTests := true, laidLooks := .later }
def FnExactMakeDirUptoCardSaid : Prop := Claim7.holds Tryz.pinned (.plain (OpenSpec.upto fnExactMakeDirSpec)) fnExactMakeDirUptoCard

/-- THE SECOND FORM's CARD OF 'laws.FnExactMakeFile'. -/
def fnExactMakeFileUptoCard : Claim7 := { stood := { row := fnExactMakeFileUptoRow, standIns := [], harness := (true, "e161a24b231af597ff36777bec14476717d0121e227b05920cec0256664223d3"), looks := true }, kinds := [], alts := [], laidByText := true, laidKinds := [.handle], laidTests := true, laidLooks := .later }
def FnExactMakeFileUptoCardSaid : Prop := Claim7.holds Tryz.pinned (.plain (OpenSpec.upto fnExactMakeFileSpec)) fnExactMakeFileUptoCard

/-- THE SECOND FORM's CARD OF 'laws.FnExactWriteAt'. -/
def fnExactWriteAtUptoCard : Claim7 := { stood := { row := fnExactWriteAtUptoRow, standIns := [], harness := (true, "e161a24b231af597ff36777bec14476717d0121e227b05920cec0256664223d3"), looks := true }, kinds := [], alts := [], laidByText := true, laidKinds := [.handle], laidTests := true, laidLooks := .later }
def FnExactWriteAtUptoCardSaid : Prop := Claim7.holds Tryz.pinned (.plain (OpenSpec.upto fnExactWriteAtSpec)) fnExactWriteAtUptoCard

/-- THE SECOND FORM's CARD OF 'laws.FnExactTruncate'. -/
def fnExactTruncateUptoCard : Claim7 := { stood := { row := fnExactTruncateUptoRow, standIns := [], harness := (true, "e161a24b231af597ff36777bec14476717d0121e227b05920cec0256664223d3"), looks := true }, kinds := [], alts := [], laidByText := true, laidKinds := [.handle], laidTests := true, laidLooks := .later }
def FnExactTruncateUptoCardSaid : Prop := Claim7.holds Tryz.pinned (.plain (OpenSpec.upto fnExactTruncateSpec)) fnExactTruncateUptoCard

/-- THE SECOND FORM's CARD OF 'laws.FnExactUnlink'. -/
def fnExactUnlinkUptoCard : Claim7 := { stood := { row := fnExactUnlinkUptoRow, standIns := [], harness := (true, "e161a24b231af597ff36777bec14476717d0121e227b05920cec0256664223d3"), looks := true }, kinds := [], alts := [], laidByText := true, laidKinds := [.handle], laidTests := true, laidLooks := .later }
def FnExactUnlinkUptoCardSaid : Prop := Claim7.holds Tryz.pinned (.plain (OpenSpec.upto fnExactUnlinkSpec)) fnExactUnlinkUptoCard

/-- THE SECOND FORM's CARD OF 'laws.FnExactRemoveDir'. -/
def fnExactRemoveDirUptoCard : Claim7 := { stood := { row := fnExactRemoveDirUptoRow, standIns := [], harness := (true, "e161a24b231af597ff36777bec14476717d0121e227b05920cec0256664223d3"), looks := true }, kinds := [], alts := [], laidByText := true, laidKinds := [.handle], laidTests := true, laidLooks := .later }
def FnExactRemoveDirUptoCardSaid : Prop := Claim7.holds Tryz.pinned (.plain (OpenSpec.upto fnExactRemoveDirSpec)) fnExactRemoveDirUptoCard

/-- THE SECOND FORM's CARD OF 'laws.FnExactHardLink'. -/
def fnExactHardLinkUptoCard : Claim7 := { stood := { row := fnExactHardLinkUptoRow, standIns := [], harness := (true, "e161a24b231af597ff36777bec14476717d0121e227b05920cec0256664223d3"), looks := true }, kinds := [], alts := [], laidByText := true, laidKinds := [.handle], laidTests := true, laidLooks := .later }
def FnExactHardLinkUptoCardSaid : Prop := Claim7.holds Tryz.pinned (.plain (OpenSpec.upto fnExactHardLinkSpec)) fnExactHardLinkUptoCard

/-- THE SECOND FORM's CARD OF 'laws.FnExactRename'. -/
def fnExactRenameUptoCard : Claim7 := { stood := { row := fnExactRenameUptoRow, standIns := [], harness := (true, "e161a24b231af597ff36777bec14476717d0121e227b05920cec0256664223d3"), looks := true }, kinds := [], alts := [], laidByText := true, laidKinds := [.handle], laidTests := true, laidLooks := .later }
def FnExactRenameUptoCardSaid : Prop := Claim7.holds Tryz.pinned (.plain (OpenSpec.upto fnExactRenameSpec)) fnExactRenameUptoCard

/-- THE SECOND FORM's CARD OF 'laws.FnExactSetAttr'. -/
def fnExactSetAttrUptoCard : Claim7 := { stood := { row := fnExactSetAttrUptoRow, standIns := [], harness := (true, "e161a24b231af597ff36777bec14476717d0121e227b05920cec0256664223d3"), looks := true }, kinds := [], alts := [], laidByText := true, laidKinds := [.handle], laidTests := true, laidLooks := .later }
def FnExactSetAttrUptoCardSaid : Prop := Claim7.holds Tryz.pinned (.plain (OpenSpec.upto fnExactSetAttrSpec)) fnExactSetAttrUptoCard
end Rows
end Go.Proofs.YtnfplimhhjpbkaaGreatDoor
