/-
  DERIVED. GIVEN WITH THE SEED: THE CARDS: each row of YtbjfihabkpianaaGreatDoorRows.lean that lists a variable, with what it lists TIED to the program's text (the seventh form; the later family's looks); each row that meets fmt, with fmt's text TOLD by the authors' own Lean function (tested against real Go, not proved from fmt's source: count such statements apart). THE CARD IS WHAT COUNTS. Prove the row's statement (the work); the ties are given (YtbjfihabkpianaaGreatDoorTie.lean); close each card by the builder's one call (the guide's Derived/Test/ToyasCard.lean, 'card_holds'). Laid BY PROGRAM, IN A SANDBOX (cutbox-door.mjs). By AI agents, Wed Nov 11 2026. No macro, syntax, notation, axiom, sorry.
-/
import Derived.Test.YtbjfihabkpianaaGreatDoorRows
import GoSem.ClaimSeven
namespace Go.Proofs.YtbjfihabkpianaaGreatDoor
namespace Rows

/-- THE TIED CARD OF 'laws.FnExactNewVol'. -/
def fnExactNewVolCard : Claim7 := { stood := { row := fnExactNewVolRow, standIns := [], harness := (true, "6e00f113eece64e625e15d15e17c32e105cc94f0c62cac65c145a9aff9a2ee4a"), looks := true }, kinds := [], alts := [], laidByText := true, laidKinds := [.handle], laidTests := true, laidLooks := .later }
def FnExactNewVolCardSaid : Prop := Claim7.holds Tryz.pinned (.plain (OpenSpec.ofChange fnExactNewVolSpec)) fnExactNewVolCard

/-- THE TIED CARD OF 'laws.FnExactSnapVol'. -/
def fnExactSnapVolCard : Claim7 := { stood := { row := fnExactSnapVolRow, standIns := [], harness := (true, "6e00f113eece64e625e15d15e17c32e105cc94f0c62cac65c145a9aff9a2ee4a"), looks := true }, kinds := [], alts := [], laidByText := true, laidKinds := [.handle], laidTests := true, laidLooks := .later }
def FnExactSnapVolCardSaid : Prop := Claim7.holds Tryz.pinned (.plain (OpenSpec.ofChange fnExactSnapVolSpec)) fnExactSnapVolCard

/-- THE TIED CARD OF 'laws.FnExactCloneVol'. -/
def fnExactCloneVolCard : Claim7 := { stood := { row := fnExactCloneVolRow, standIns := [], harness := (true, "6e00f113eece64e625e15d15e17c32e105cc94f0c62cac65c145a9aff9a2ee4a"), looks := true }, kinds := [], alts := [], laidByText := true, laidKinds := [.handle], laidTests := true, laidLooks := .later }
def FnExactCloneVolCardSaid : Prop := Claim7.holds Tryz.pinned (.plain (OpenSpec.ofChange fnExactCloneVolSpec)) fnExactCloneVolCard

/-- THE TIED CARD OF 'laws.FnExactDropVol'. -/
def fnExactDropVolCard : Claim7 := { stood := { row := fnExactDropVolRow, standIns := [], harness := (true, "6e00f113eece64e625e15d15e17c32e105cc94f0c62cac65c145a9aff9a2ee4a"), looks := true }, kinds := [], alts := [], laidByText := true, laidKinds := [.handle], laidTests := true, laidLooks := .later }
def FnExactDropVolCardSaid : Prop := Claim7.holds Tryz.pinned (.plain (OpenSpec.ofChange fnExactDropVolSpec)) fnExactDropVolCard

/-- THE TIED CARD OF 'laws.FnExactSetLimit'. -/
def fnExactSetLimitCard : Claim7 := { stood := { row := fnExactSetLimitRow, standIns := [], harness := (true, "6e00f113eece64e625e15d15e17c32e105cc94f0c62cac65c145a9aff9a2ee4a"), looks := true }, kinds := [], alts := [], laidByText := true, laidKinds := [.handle], laidTests := true, laidLooks := .later }
def FnExactSetLimitCardSaid : Prop := Claim7.holds Tryz.pinned (.plain (OpenSpec.ofChange fnExactSetLimitSpec)) fnExactSetLimitCard

/-- THE TIED CARD OF 'laws.FnHoles'. -/
def fnHolesCard : Claim7 := { stood := { row := fnHolesRow, standIns := [], harness := (true, "6e00f113eece64e625e15d15e17c32e105cc94f0c62cac65c145a9aff9a2ee4a"), looks := true }, kinds := [], alts := [], laidByText := true, laidKinds := [.handle], laidTests := true, laidLooks := .later }
def FnHolesCardSaid : Prop := Claim7.holds Tryz.pinned (.plain (OpenSpec.ofChange fnHolesSpec)) fnHolesCard

/-- THE TIED CARD OF 'laws.FnKinds'. -/
def fnKindsCard : Claim7 := { stood := { row := fnKindsRow, standIns := [], harness := (true, "6e00f113eece64e625e15d15e17c32e105cc94f0c62cac65c145a9aff9a2ee4a"), looks := true }, kinds := [], alts := [], laidByText := true, laidKinds := [.handle], laidTests := true, laidLooks := .later }
def FnKindsCardSaid : Prop := Claim7.holds Tryz.pinned (.plain (OpenSpec.ofChange fnKindsSpec)) fnKindsCard

/-- THE TIED CARD OF 'laws.FnBigFile'. -/
def fnBigFileCard : Claim7 := { stood := { row := fnBigFileRow, standIns := [], harness := (true, "6e00f113eece64e625e15d15e17c32e105cc94f0c62cac65c145a9aff9a2ee4a"), looks := true }, kinds := [], alts := [], laidByText := true, laidKinds := [.handle], laidTests := true, laidLooks := .later }
def FnBigFileCardSaid : Prop := Claim7.holds Tryz.pinned (.plain (OpenSpec.ofChange fnBigFileSpec)) fnBigFileCard

/-- THE TIED CARD OF 'laws.FnLinkCount'. -/
def fnLinkCountCard : Claim7 := { stood := { row := fnLinkCountRow, standIns := [], harness := (true, "6e00f113eece64e625e15d15e17c32e105cc94f0c62cac65c145a9aff9a2ee4a"), looks := true }, kinds := [], alts := [], laidByText := true, laidKinds := [.handle], laidTests := true, laidLooks := .later }
def FnLinkCountCardSaid : Prop := Claim7.holds Tryz.pinned (.plain (OpenSpec.ofChange fnLinkCountSpec)) fnLinkCountCard

/-- THE TIED CARD OF 'laws.FnFullAttrs'. -/
def fnFullAttrsCard : Claim7 := { stood := { row := fnFullAttrsRow, standIns := [], harness := (true, "6e00f113eece64e625e15d15e17c32e105cc94f0c62cac65c145a9aff9a2ee4a"), looks := true }, kinds := [], alts := [], laidByText := true, laidKinds := [.handle], laidTests := true, laidLooks := .later }
def FnFullAttrsCardSaid : Prop := Claim7.holds Tryz.pinned (.plain (OpenSpec.ofChange fnFullAttrsSpec)) fnFullAttrsCard

/-- THE TIED CARD OF 'laws.FnMovedTree'. -/
def fnMovedTreeCard : Claim7 := { stood := { row := fnMovedTreeRow, standIns := [], harness := (true, "6e00f113eece64e625e15d15e17c32e105cc94f0c62cac65c145a9aff9a2ee4a"), looks := true }, kinds := [], alts := [], laidByText := true, laidKinds := [.handle], laidTests := true, laidLooks := .later }
def FnMovedTreeCardSaid : Prop := Claim7.holds Tryz.pinned (.plain (OpenSpec.ofChange fnMovedTreeSpec)) fnMovedTreeCard

/-- THE TIED CARD OF 'laws.FnRootStays'. -/
def fnRootStaysCard : Claim7 := { stood := { row := fnRootStaysRow, standIns := [], harness := (true, "6e00f113eece64e625e15d15e17c32e105cc94f0c62cac65c145a9aff9a2ee4a"), looks := true }, kinds := [], alts := [], laidByText := true, laidKinds := [.handle], laidTests := true, laidLooks := .later }
def FnRootStaysCardSaid : Prop := Claim7.holds Tryz.pinned (.plain (OpenSpec.ofChange fnRootStaysSpec)) fnRootStaysCard

/-- THE SECOND FORM's CARD OF 'laws.FnExactNewVol'. -/
def fnExactNewVolUptoCard : Claim7 := { stood := { row := fnExactNewVolUptoRow, standIns := [], harness := (true, "6e00f113eece64e625e15d15e17c32e105cc94f0c62cac65c145a9aff9a2ee4a"), looks := true }, kinds := [], alts := [], laidByText := true, laidKinds := [.handle], laidTests := true, laidLooks := .later }
def FnExactNewVolUptoCardSaid : Prop := Claim7.holds Tryz.pinned (.plain (OpenSpec.upto fnExactNewVolSpec)) fnExactNewVolUptoCard

/-- THE SECOND FORM's CARD OF 'laws.FnExactSnapVol'. -/
def fnExactSnapVolUptoCard : Claim7 := { stood := { row := fnExactSnapVolUptoRow, standIns := [], harness := (true, "6e00f113eece64e625e15d15e17c32e105cc94f0c62cac65c145a9aff9a2ee4a"), looks := true }, kinds := [], alts := [], laidByText := true, laidKinds := [.handle], laidTests := true, laidLooks := .later }
def FnExactSnapVolUptoCardSaid : Prop := Claim7.holds Tryz.pinned (.plain (OpenSpec.upto fnExactSnapVolSpec)) fnExactSnapVolUptoCard

/-- THE SECOND FORM's CARD OF 'laws.FnExactCloneVol'. -/
def fnExactCloneVolUptoCard : Claim7 := { stood := { row := fnExactCloneVolUptoRow, standIns := [], harness := (true, "6e00f113eece64e625e15d15e17c32e105cc94f0c62cac65c145a9aff9a2ee4a"), looks := true }, kinds := [], alts := [], laidByText := true, laidKinds := [.handle], laidTests := true, laidLooks := .later }
def FnExactCloneVolUptoCardSaid : Prop := Claim7.holds Tryz.pinned (.plain (OpenSpec.upto fnExactCloneVolSpec)) fnExactCloneVolUptoCard

/-- THE SECOND FORM's CARD OF 'laws.FnExactDropVol'. -/
def fnExactDropVolUptoCard : Claim7 := { stood := { row := fnExactDropVolUptoRow, standIns := [], harness := (true, "6e00f113eece64e625e15d15e17c32e105cc94f0c62cac65c145a9aff9a2ee4a"), looks := true }, kinds := [], alts := [], laidByText := true, laidKinds := [.handle], laidTests := true, laidLooks := .later }
def FnExactDropVolUptoCardSaid : Prop := Claim7.holds Tryz.pinned (.plain (OpenSpec.upto fnExactDropVolSpec)) fnExactDropVolUptoCard

/-- THE SECOND FORM's CARD OF 'laws.FnExactSetLimit'. -/
def fnExactSetLimitUptoCard : Claim7 := { stood := { row := fnExactSetLimitUptoRow, standIns := [], harness := (true, "6e00f113eece64e625e15d15e17c32e105cc94f0c62cac65c145a9aff9a2ee4a"), looks := true }, kinds := [], alts := [], laidByText := true, laidKinds := [.handle], laidTests := true, laidLooks := .later }
def FnExactSetLimitUptoCardSaid : Prop := Claim7.holds Tryz.pinned (.plain (OpenSpec.upto fnExactSetLimitSpec)) fnExactSetLimitUptoCard

/-- THE SECOND FORM's CARD OF 'laws.FnHoles'. -/
def fnHolesUptoCard : Claim7 := { stood := { row := fnHolesUptoRow, standIns := [], harness := (true, "6e00f113eece64e625e15d15e17c32e105cc94f0c62cac65c145a9aff9a2ee4a"), looks := true }, kinds := [], alts := [], laidByText := true, laidKinds := [.handle], laidTests := true, laidLooks := .later }
def FnHolesUptoCardSaid : Prop := Claim7.holds Tryz.pinned (.plain (OpenSpec.upto fnHolesSpec)) fnHolesUptoCard

/-- THE SECOND FORM's CARD OF 'laws.FnKinds'. -/
def fnKindsUptoCard : Claim7 := { stood := { row := fnKindsUptoRow, standIns := [], harness := (true, "6e00f113eece64e625e15d15e17c32e105cc94f0c62cac65c145a9aff9a2ee4a"), looks := true }, kinds := [], alts := [], laidByText := true, laidKinds := [.handle], laidTests := true, laidLooks := .later }
def FnKindsUptoCardSaid : Prop := Claim7.holds Tryz.pinned (.plain (OpenSpec.upto fnKindsSpec)) fnKindsUptoCard

/-- THE SECOND FORM's CARD OF 'laws.FnBigFile'. -/
def fnBigFileUptoCard : Claim7 := { stood := { row := fnBigFileUptoRow, standIns := [], harness := (true, "6e00f113eece64e625e15d15e17c32e105cc94f0c62cac65c145a9aff9a2ee4a"), looks := true }, kinds := [], alts := [], laidByText := true, laidKinds := [.handle], laidTests := true, laidLooks := .later }
def FnBigFileUptoCardSaid : Prop := Claim7.holds Tryz.pinned (.plain (OpenSpec.upto fnBigFileSpec)) fnBigFileUptoCard

/-- THE SECOND FORM's CARD OF 'laws.FnLinkCount'. -/
def fnLinkCountUptoCard : Claim7 := { stood := { row := fnLinkCountUptoRow, standIns := [], harness := (true, "6e00f113eece64e625e15d15e17c32e105cc94f0c62cac65c145a9aff9a2ee4a"), looks := true }, kinds := [], alts := [], laidByText := true, laidKinds := [.handle], laidTests := true, laidLooks := .later }
def FnLinkCountUptoCardSaid : Prop := Claim7.holds Tryz.pinned (.plain (OpenSpec.upto fnLinkCountSpec)) fnLinkCountUptoCard

/-- THE SECOND FORM's CARD OF 'laws.FnFullAttrs'. -/
def fnFullAttrsUptoCard : Claim7 := { stood := { row := fnFullAttrsUptoRow, standIns := [], harness := (true, "6e00f113eece64e625e15d15e17c32e105cc94f0c62cac65c145a9aff9a2ee4a"), looks := true }, kinds := [], alts := [], laidByText := true, laidKinds := [.handle], laidTests := true, laidLooks := .later }
def FnFullAttrsUptoCardSaid : Prop := Claim7.holds Tryz.pinned (.plain (OpenSpec.upto fnFullAttrsSpec)) fnFullAttrsUptoCard

/-- THE SECOND FORM's CARD OF 'laws.FnMovedTree'. -/
def fnMovedTreeUptoCard : Claim7 := { stood := { row := fnMovedTreeUptoRow, standIns := [], harness := (true, "6e00f113eece64e625e15d15e17c32e105cc94f0c62cac65c145a9aff9a2ee4a"), looks := true }, kinds := [], alts := [], laidByText := true, laidKinds := [.handle], laidTests := true, laidLooks := .later }
def FnMovedTreeUptoCardSaid : Prop := Claim7.holds Tryz.pinned (.plain (OpenSpec.upto fnMovedTreeSpec)) fnMovedTreeUptoCard

/-- THE SECOND FORM's CARD OF 'laws.FnRootStays'. -/
def fnRootStaysUptoCard : Claim7 := { stood := { row := fnRootStaysUptoRow, standIns := [], harness := (true, "6e00f113eece64e625e15d15e17c32e105cc94f0c62cac65c145a9aff9a2ee4a"), looks := true }, kinds := [], alts := [], laidByText := true, laidKinds := [.handle], laidTests := true, laidLooks := .later }
def FnRootStaysUptoCardSaid : Prop := Claim7.holds Tryz.pinned (.plain (OpenSpec.upto fnRootStaysSpec)) fnRootStaysUptoCard
end Rows
end Go.Proofs.YtbjfihabkpianaaGreatDoor
