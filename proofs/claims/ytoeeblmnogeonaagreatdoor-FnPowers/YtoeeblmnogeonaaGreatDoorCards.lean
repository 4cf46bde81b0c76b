/-
  DERIVED. GIVEN WITH THE SEED: THE CARDS: each row of YtoeeblmnogeonaaGreatDoorRows.lean that lists a variable, with what it lists TIED to the program's text (the seventh form; the later family's looks); each row that meets fmt, with fmt's text TOLD by the authors' own Lean function (tested against real Go, not proved from fmt's source: count such statements apart). THE CARD IS WHAT COUNTS. Prove the row's statement (the work); the ties are given (YtoeeblmnogeonaaGreatDoorTie.lean); close each card by the builder's one call (the guide's Derived/Test/ToyasCard.lean, 'card_holds'). Laid BY PROGRAM, IN A SANDBOX (cutbox-door.mjs). By AI agents, Wed Nov 11 2026. No macro, syntax, notation, axiom, sorry.
-/
import Derived.Test.YtoeeblmnogeonaaGreatDoorRows
import GoSem.ClaimSeven
namespace Go.Proofs.YtoeeblmnogeonaaGreatDoor
namespace Rows

/-- THE TIED CARD OF 'laws.FnDevs'. -/
def fnDevsCard : Claim7 := { stood := { row := fnDevsRow, standIns := [], harness := (true, "1d0bf4652035920842f2fc74a2b6759d3ea603a438d323b3e179db294d93b7ae"), looks := true }, kinds := [], alts := [], laidByText := true, laidKinds := [.handle], laidTests := true, laidLooks := .later }
def FnDevsCardSaid : Prop := Claim7.holds Tryz.pinned (.plain (OpenSpec.ofChange fnDevsSpec)) fnDevsCard

/-- THE TIED CARD OF 'laws.FnDevErased'. -/
def fnDevErasedCard : Claim7 := { stood := { row := fnDevErasedRow, standIns := [], harness := (true, "1d0bf4652035920842f2fc74a2b6759d3ea603a438d323b3e179db294d93b7ae"), looks := true }, kinds := [], alts := [], laidByText := true, laidKinds := [.handle], laidTests := true, laidLooks := .later }
def FnDevErasedCardSaid : Prop := Claim7.holds Tryz.pinned (.plain (OpenSpec.ofChange fnDevErasedSpec)) fnDevErasedCard

/-- THE TIED CARD OF 'laws.FnPowers'. -/
def fnPowersCard : Claim7 := { stood := { row := fnPowersRow, standIns := [], harness := (true, "1d0bf4652035920842f2fc74a2b6759d3ea603a438d323b3e179db294d93b7ae"), looks := true }, kinds := [], alts := [], laidByText := true, laidKinds := [.handle], laidTests := true, laidLooks := .later }
def FnPowersCardSaid : Prop := Claim7.holds Tryz.pinned (.plain (OpenSpec.ofChange fnPowersSpec)) fnPowersCard

/-- THE TIED CARD OF 'laws.FnLogs'. -/
def fnLogsCard : Claim7 := { stood := { row := fnLogsRow, standIns := [], harness := (true, "1d0bf4652035920842f2fc74a2b6759d3ea603a438d323b3e179db294d93b7ae"), looks := true }, kinds := [], alts := [], laidByText := true, laidKinds := [.handle], laidTests := true, laidLooks := .later }
def FnLogsCardSaid : Prop := Claim7.holds Tryz.pinned (.plain (OpenSpec.ofChange fnLogsSpec)) fnLogsCard

/-- THE TIED CARD OF 'laws.FnFilled'. -/
def fnFilledCard : Claim7 := { stood := { row := fnFilledRow, standIns := [], harness := (true, "1d0bf4652035920842f2fc74a2b6759d3ea603a438d323b3e179db294d93b7ae"), looks := true }, kinds := [], alts := [], laidByText := true, laidKinds := [.handle], laidTests := true, laidLooks := .later }
def FnFilledCardSaid : Prop := Claim7.holds Tryz.pinned (.plain (OpenSpec.ofChange fnFilledSpec)) fnFilledCard

/-- THE TIED CARD OF 'laws.FnTornPage'. -/
def fnTornPageCard : Claim7 := { stood := { row := fnTornPageRow, standIns := [], harness := (true, "1d0bf4652035920842f2fc74a2b6759d3ea603a438d323b3e179db294d93b7ae"), looks := true }, kinds := [], alts := [], laidByText := true, laidKinds := [.handle], laidTests := true, laidLooks := .later }
def FnTornPageCardSaid : Prop := Claim7.holds Tryz.pinned (.plain (OpenSpec.ofChange fnTornPageSpec)) fnTornPageCard

/-- THE SECOND FORM's CARD OF 'laws.FnDevs'. -/
def fnDevsUptoCard : Claim7 := { stood := { row := fnDevsUptoRow, standIns := [], harness := (true, "1d0bf4652035920842f2fc74a2b6759d3ea603a438d323b3e179db294d93b7ae"), looks := true }, kinds := [], alts := [], laidByText := true, laidKinds := [.handle], laidTests := true, laidLooks := .later }
def FnDevsUptoCardSaid : Prop := Claim7.holds Tryz.pinned (.plain (OpenSpec.upto fnDevsSpec)) fnDevsUptoCard

/-- THE SECOND FORM's CARD OF 'laws.FnDevErased'. -/
def fnDevErasedUptoCard : Claim7 := { stood := { row := fnDevErasedUptoRow, standIns := [], harness := (true, "1d0bf4652035920842f2fc74a2b6759d3ea603a438d323b3e179db294d93b7ae"), looks := true }, kinds := [], alts := [], laidByText := true, laidKinds := [.handle], laidTests := true, laidLooks := .later }
def FnDevErasedUptoCardSaid : Prop := Claim7.holds Tryz.pinned (.plain (OpenSpec.upto fnDevErasedSpec)) fnDevErasedUptoCard

/-- THE SECOND FORM's CARD OF 'laws.FnPowers'. -/
def fnPowersUptoCard : Claim7 := { stood := { row := fnPowersUptoRow, standIns := [], harness := (true, "1d0bf4652035920842f2fc74a2b6759d3ea603a438d323b3e179db294d93b7ae"), looks := true }, kinds := [], alts := [], laidByText := true, laidKinds := [.handle], laidTests := true, laidLooks := .later }
def FnPowersUptoCardSaid : Prop := Claim7.holds Tryz.pinned (.plain (OpenSpec.upto fnPowersSpec)) fnPowersUptoCard

/-- THE SECOND FORM's CARD OF 'laws.FnLogs'. -/
def fnLogsUptoCard : Claim7 := { stood := { row := fnLogsUptoRow, standIns := [], harness := (true, "1d0bf4652035920842f2fc74a2b6759d3ea603a438d323b3e179db294d93b7ae"), looks := true }, kinds := [], alts := [], laidByText := true, laidKinds := [.handle], laidTests := true, laidLooks := .later }
def FnLogsUptoCardSaid : Prop := Claim7.holds Tryz.pinned (.plain (OpenSpec.upto fnLogsSpec)) fnLogsUptoCard

/-- THE SECOND FORM's CARD OF 'laws.FnFilled'. -/
def fnFilledUptoCard : Claim7 := { stood := { row := fnFilledUptoRow, standIns := [], harness := (true, "1d0bf4652035920842f2fc74a2b6759d3ea603a438d323b3e179db294d93b7ae"), looks := true }, kinds := [], alts := [], laidByText := true, laidKinds := [.handle], laidTests := true, laidLooks := .later }
def FnFilledUptoCardSaid : Prop := Claim7.holds Tryz.pinned (.plain (OpenSpec.upto fnFilledSpec)) fnFilledUptoCard

/-- THE SECOND FORM's CARD OF 'laws.FnTornPage'. -/
def fnTornPageUptoCard : Claim7 := { stood := { row := fnTornPageUptoRow, standIns := [], harness := (true, "1d0bf4652035920842f2fc74a2b6759d3ea603a438d323b3e179db294d93b7ae"), looks := true }, kinds := [], alts := [], laidByText := true, laidKinds := [.handle], laidTests := true, laidLooks := .later }
def FnTornPageUptoCardSaid : Prop := Claim7.holds Tryz.pinned (.plain (OpenSpec.upto fnTornPageSpec)) fnTornPageUptoCard
end Rows
end Go.Proofs.YtoeeblmnogeonaaGreatDoor
