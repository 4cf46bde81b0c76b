/-
  DERIVED. GIVEN WITH THE SEED: THE CARDS: each row of YtmfimoccemgoiaaGreatDoorRows.lean that lists a variable, with what it lists TIED to the program's text (the seventh form; the later family's looks); each row that meets fmt, with fmt's text TOLD by the authors' own Lean function (tested against real Go, not proved from fmt's source: count such statements apart). THE CARD IS WHAT COUNTS. Prove the row's statement (the work); the ties are given (YtmfimoccemgoiaaGreatDoorTie.lean); close each card by the builder's one call (the guide's Derived/Test/ToyasCard.lean, 'card_holds'). Laid BY PROGRAM, IN A SANDBOX (cutbox-door.mjs). By AI agents, Wed Nov 11 2026. No macro, syntax, notation, axiom, sorry.
-/
import Derived.Test.YtmfimoccemgoiaaGreatDoorRows
import GoSem.ClaimSeven
namespace Go.Proofs.YtmfimoccemgoiaaGreatDoor
namespace Rows

/-- THE TIED CARD OF 'laws.FnExactMakeDir'. -/
def fnExactMakeDirCard : Claim7 := { stood := { row := fnExactMakeDirRow, standIns := [], harness := (true, "f12721b427f7879bfdd82799d467ba599d4460e39015bcf1bb669cce24751f4d"), looks := true }, kinds := [], alts := [], laidByText := true, laidKinds := [.handle], laidTests := true, laidLooks := .later }
def FnExactMakeDirCardSaid : Prop := Claim7.holds Tryz.pinned (.plain (OpenSpec.ofChange fnExactMakeDirSpec)) fnExactMakeDirCard

/-- THE TIED CARD OF 'laws.FnExactMakeFile'. -/
def fnExactMakeFileCard : Claim7 := { stood := { row := fnExactMakeFileRow, standIns := [], harness := (true, "f12721b427f7879bfdd82799d467ba599d4460e39015bcf1bb669cce24751f4d"), looks := true }, kinds := [], alts := [], laidByText := true, laidKinds := [.handle], laidTests := true, laidLooks := .later }
def FnExactMakeFileCardSaid : Prop := Claim7.holds Tryz.pinned (.plain (OpenSpec.ofChange fnExactMakeFileSpec)) fnExactMakeFileCard

/-- THE TIED CARD OF 'laws.FnExactHardLink'. -/
def fnExactHardLinkCard : Claim7 := { stood := { row := fnExactHardLinkRow, standIns := [], harness := (true, "f12721b427f7879bfdd82799d467ba599d4460e39015bcf1bb669cce24751f4d"), looks := true }, kinds := [], alts := [], laidByText := true, laidKinds := [.handle], laidTests := true, laidLooks := .later }
def FnExactHardLinkCardSaid : Prop := Claim7.holds Tryz.pinned (.plain (OpenSpec.ofChange fnExactHardLinkSpec)) fnExactHardLinkCard

/-- THE TIED CARD OF 'laws.FnExactRename'. -/
def fnExactRenameCard : Claim7 := { stood := { row := fnExactRenameRow, standIns := [], harness := (true, "f12721b427f7879bfdd82799d467ba599d4460e39015bcf1bb669cce24751f4d"), looks := true }, kinds := [], alts := [], laidByText := true, laidKinds := [.handle], laidTests := true, laidLooks := .later }
def FnExactRenameCardSaid : Prop := Claim7.holds Tryz.pinned (.plain (OpenSpec.ofChange fnExactRenameSpec)) fnExactRenameCard

/-- THE TIED CARD OF 'laws.FnRootStays'. -/
def fnRootStaysCard : Claim7 := { stood := { row := fnRootStaysRow, standIns := [], harness := (true, "f12721b427f7879bfdd82799d467ba599d4460e39015bcf1bb669cce24751f4d"), looks := true }, kinds := [], alts := [], laidByText := true, laidKinds := [.handle], laidTests := true, laidLooks := .later }
def FnRootStaysCardSaid : Prop := Claim7.holds Tryz.pinned (.plain (OpenSpec.ofChange fnRootStaysSpec)) fnRootStaysCard

/-- THE TIED CARD OF 'laws.FnFullDir'. -/
def fnFullDirCard : Claim7 := { stood := { row := fnFullDirRow, standIns := [], harness := (true, "f12721b427f7879bfdd82799d467ba599d4460e39015bcf1bb669cce24751f4d"), looks := true }, kinds := [], alts := [], laidByText := true, laidKinds := [.handle], laidTests := true, laidLooks := .later }
def FnFullDirCardSaid : Prop := Claim7.holds Tryz.pinned (.plain (OpenSpec.ofChange fnFullDirSpec)) fnFullDirCard

/-- THE TIED CARD OF 'laws.FnHoles'. -/
def fnHolesCard : Claim7 := { stood := { row := fnHolesRow, standIns := [], harness := (true, "f12721b427f7879bfdd82799d467ba599d4460e39015bcf1bb669cce24751f4d"), looks := true }, kinds := [], alts := [], laidByText := true, laidKinds := [.handle], laidTests := true, laidLooks := .later }
def FnHolesCardSaid : Prop := Claim7.holds Tryz.pinned (.plain (OpenSpec.ofChange fnHolesSpec)) fnHolesCard

/-- THE TIED CARD OF 'laws.FnKinds'. -/
def fnKindsCard : Claim7 := { stood := { row := fnKindsRow, standIns := [], harness := (true, "f12721b427f7879bfdd82799d467ba599d4460e39015bcf1bb669cce24751f4d"), looks := true }, kinds := [], alts := [], laidByText := true, laidKinds := [.handle], laidTests := true, laidLooks := .later }
def FnKindsCardSaid : Prop := Claim7.holds Tryz.pinned (.plain (OpenSpec.ofChange fnKindsSpec)) fnKindsCard

/-- THE TIED CARD OF 'laws.FnTreesBent'. -/
def fnTreesBentCard : Claim7 := { stood := { row := fnTreesBentRow, standIns := [], harness := (true, "f12721b427f7879bfdd82799d467ba599d4460e39015bcf1bb669cce24751f4d"), looks := true }, kinds := [], alts := [], laidByText := true, laidKinds := [.handle], laidTests := true, laidLooks := .later }
def FnTreesBentCardSaid : Prop := Claim7.holds Tryz.pinned (.plain (OpenSpec.ofChange fnTreesBentSpec)) fnTreesBentCard

/-- THE TIED CARD OF 'laws.FnNewTabs'. -/
def fnNewTabsCard : Claim7 := { stood := { row := fnNewTabsRow, standIns := [], harness := (true, "f12721b427f7879bfdd82799d467ba599d4460e39015bcf1bb669cce24751f4d"), looks := true }, kinds := [], alts := [], laidByText := true, laidKinds := [.handle], laidTests := true, laidLooks := .later }
def FnNewTabsCardSaid : Prop := Claim7.holds Tryz.pinned (.plain (OpenSpec.ofChange fnNewTabsSpec)) fnNewTabsCard

/-- THE TIED CARD OF 'laws.FnBigFile'. -/
def fnBigFileCard : Claim7 := { stood := { row := fnBigFileRow, standIns := [], harness := (true, "f12721b427f7879bfdd82799d467ba599d4460e39015bcf1bb669cce24751f4d"), looks := true }, kinds := [], alts := [], laidByText := true, laidKinds := [.handle], laidTests := true, laidLooks := .later }
def FnBigFileCardSaid : Prop := Claim7.holds Tryz.pinned (.plain (OpenSpec.ofChange fnBigFileSpec)) fnBigFileCard

/-- THE TIED CARD OF 'laws.FnLinkCount'. -/
def fnLinkCountCard : Claim7 := { stood := { row := fnLinkCountRow, standIns := [], harness := (true, "f12721b427f7879bfdd82799d467ba599d4460e39015bcf1bb669cce24751f4d"), looks := true }, kinds := [], alts := [], laidByText := true, laidKinds := [.handle], laidTests := true, laidLooks := .later }
def FnLinkCountCardSaid : Prop := Claim7.holds Tryz.pinned (.plain (OpenSpec.ofChange fnLinkCountSpec)) fnLinkCountCard

/-- THE SECOND FORM's CARD OF 'laws.FnExactMakeDir'. -/
def fnExactMakeDirUptoCard : Claim7 := { stood := { row := fnExactMakeDirUptoRow, standIns := [], harness := (true, "f12721b427f7879bfdd82799d467ba599d4460e39015bcf1bb669cce24751f4d"), looks := true }, kinds := [], alts := [], laidByText := true, laidKinds := [.handle], laidTests := true, laidLooks := .later }
def FnExactMakeDirUptoCardSaid : Prop := Claim7.holds Tryz.pinned (.plain (OpenSpec.upto fnExactMakeDirSpec)) fnExactMakeDirUptoCard

/-- THE SECOND FORM's CARD OF 'laws.FnExactMakeFile'. -/
def fnExactMakeFileUptoCard : Claim7 := { stood := { row := fnExactMakeFileUptoRow, standIns := [], harness := (true, "f12721b427f7879bfdd82799d467ba599d4460e39015bcf1bb669cce24751f4d"), looks := true }, kinds := [], alts := [], laidByText := true, laidKinds := [.handle], laidTests := true, laidLooks := .later }
def FnExactMakeFileUptoCardSaid : Prop := Claim7.holds Tryz.pinned (.plain (OpenSpec.upto fnExactMakeFileSpec)) fnExactMakeFileUptoCard

/-- THE SECOND FORM's CARD OF 'laws.FnExactHardLink'. -/
def fnExactHardLinkUptoCard : Claim7 := { stood := { row := fnExactHardLinkUptoRow, standIns := [], harness := (true, "f12721b427f7879bfdd82799d467ba599d4460e39015bcf1bb669cce24751f4d"), looks := true }, kinds := [], alts := [], laidByText := true, laidKinds := [.handle], laidTests := true, laidLooks := .later }
def FnExactHardLinkUptoCardSaid : Prop := Claim7.holds Tryz.pinned (.plain (OpenSpec.upto fnExactHardLinkSpec)) fnExactHardLinkUptoCard

/-- THE SECOND FORM's CARD OF 'laws.FnExactRename'. -/
def fnExactRenameUptoCard : Claim7 := { stood := { row := fnExactRenameUptoRow, standIns := [], harness := (true, "f12721b427f7879bfdd82799d467ba599d4460e39015bcf1bb669cce24751f4d"), looks := true }, kinds := [], alts := [], laidByText := true, laidKinds := [.handle], laidTests := true, laidLooks := .later }
def FnExactRenameUptoCardSaid : Prop := Claim7.holds Tryz.pinned (.plain (OpenSpec.upto fnExactRenameSpec)) fnExactRenameUptoCard

/-- THE SECOND FORM's CARD OF 'laws.FnRootStays'. -/
def fnRootStaysUptoCard : Claim7 := { stood := { row := fnRootStaysUptoRow, standIns := [], harness := (true, "f12721b427f7879bfdd82799d467ba599d4460e39015bcf1bb669cce24751f4d"), looks := true }, kinds := [], alts := [], laidByText := true, laidKinds := [.handle], laidTests := true, laidLooks := .later }
def FnRootStaysUptoCardSaid : Prop := Claim7.holds Tryz.pinned (.plain (OpenSpec.upto fnRootStaysSpec)) fnRootStaysUptoCard

/-- THE SECOND FORM's CARD OF 'laws.FnFullDir'. -/
def fnFullDirUptoCard : Claim7 := { stood := { row := fnFullDirUptoRow, standIns := [], harness := (true, "f12721b427f7879bfdd82799d467ba599d4460e39015bcf1bb669cce24751f4d"), looks := true }, kinds := [], alts := [], laidByText := true, laidKinds := [.handle], laidTests := true, laidLooks := .later }
def FnFullDirUptoCardSaid : Prop := Claim7.holds Tryz.pinned (.plain (OpenSpec.upto fnFullDirSpec)) fnFullDirUptoCard

/-- THE SECOND FORM's CARD OF 'laws.FnHoles'. -/
def fnHolesUptoCard : Claim7 := { stood := { row := fnHolesUptoRow, standIns := [], harness := (true, "f12721b427f7879bfdd82799d467ba599d4460e39015bcf1bb669cce24751f4d"), looks := true }, kinds := [], alts := [], laidByText := true, laidKinds := [.handle], laidTests := true, laidLooks := .later }
def FnHolesUptoCardSaid : Prop := Claim7.holds Tryz.pinned (.plain (OpenSpec.upto fnHolesSpec)) fnHolesUptoCard

/-- THE SECOND FORM's CARD OF 'laws.FnKinds'. -/
def fnKindsUptoCard : Claim7 := { stood := { row := fnKindsUptoRow, standIns := [], harness := (true, "f12721b427f7879bfdd82799d467ba599d4460e39015bcf1bb669cce24751f4d"), looks := true }, kinds := [], alts := [], laidByText := true, laidKinds := [.handle], laidTests := true, laidLooks := .later }
def FnKindsUptoCardSaid : Prop := Claim7.holds Tryz.pinned (.plain (OpenSpec.upto fnKindsSpec)) fnKindsUptoCard

/-- THE SECOND FORM's CARD OF 'laws.FnTreesBent'. -/
def fnTreesBentUptoCard : Claim7 := { stood := { row := fnTreesBentUptoRow, standIns := [], harness := (true, "f12721b427f7879bfdd82799d467ba599d4460e39015bcf1bb669cce24751f4d"), looks := true }, kinds := [], alts := [], laidByText := true, laidKinds := [.handle], laidTests := true, laidLooks := .later }
def FnTreesBentUptoCardSaid : Prop := Claim7.holds Tryz.pinned (.plain (OpenSpec.upto fnTreesBentSpec)) fnTreesBentUptoCard

/-- THE SECOND FORM's CARD OF 'laws.FnNewTabs'. -/
def fnNewTabsUptoCard : Claim7 := { stood := { row := fnNewTabsUptoRow, standIns := [], harness := (true, "f12721b427f7879bfdd82799d467ba599d4460e39015bcf1bb669cce24751f4d"), looks := true }, kinds := [], alts := [], laidByText := true, laidKinds := [.handle], laidTests := true, laidLooks := .later }
def FnNewTabsUptoCardSaid : Prop := Claim7.holds Tryz.pinned (.plain (OpenSpec.upto fnNewTabsSpec)) fnNewTabsUptoCard

/-- THE SECOND FORM's CARD OF 'laws.FnBigFile'. -/
def fnBigFileUptoCard : Claim7 := { stood := { row := fnBigFileUptoRow, standIns := [], harness := (true, "f12721b427f7879bfdd82799d467ba599d4460e39015bcf1bb669cce24751f4d"), looks := true }, kinds := [], alts := [], laidByText := true, laidKinds := [.handle], laidTests := true, laidLooks := .later }
def FnBigFileUptoCardSaid : Prop := Claim7.holds Tryz.pinned (.plain (OpenSpec.upto fnBigFileSpec)) fnBigFileUptoCard

/-- THE SECOND FORM's CARD OF 'laws.FnLinkCount'. -/
def fnLinkCountUptoCard : Claim7 := { stood := { row := fnLinkCountUptoRow, standIns := [], harness := (true, "f12721b427f7879bfdd82799d467ba599d4460e39015bcf1bb669cce24751f4d"), looks := true }, kinds := [], alts := [], laidByText := true, laidKinds := [.handle], laidTests := true, laidLooks := .later }
def FnLinkCountUptoCardSaid : Prop := Claim7.holds Tryz.pinned (.plain (OpenSpec.upto fnLinkCountSpec)) fnLinkCountUptoCard
end Rows
end Go.Proofs.YtmfimoccemgoiaaGreatDoor
