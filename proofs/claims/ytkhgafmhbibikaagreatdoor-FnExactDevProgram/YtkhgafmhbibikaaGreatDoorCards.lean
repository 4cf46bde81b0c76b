/-
  DERIVED. GIVEN WITH THE SEED: THE CARDS: each row of YtkhgafmhbibikaaGreatDoorRows.lean that lists a variable, with what it lists TIED to the program's text (the seventh form; the later family's looks); each row that meets fmt, with fmt's text TOLD by the authors' own Lean function (tested against real Go, not proved from fmt's source: count such statements apart). THE CARD IS WHAT COUNTS. Prove the row's statement (the work); the ties are given (YtkhgafmhbibikaaGreatDoorTie.lean); close each card by the builder's one call (the guide's Derived/Test/ToyasCard.lean, 'card_holds'). Laid BY PROGRAM, IN A SANDBOX (cutbox-door.mjs). By AI agents, Wed Nov 11 2026. No macro, syntax, notation, axiom, sorry.
-/
import Derived.Test.YtkhgafmhbibikaaGreatDoorRows
import GoSem.ClaimSeven
namespace Go.Proofs.YtkhgafmhbibikaaGreatDoor
namespace Rows

/-- THE TIED CARD OF 'laws.FnExactDevProgram'. -/
def fnExactDevProgramCard : Claim7 := { stood := { row := fnExactDevProgramRow, standIns := [], harness := (true, "338bafb50936bb9b271962caa15347a70f1ba88c1ee46a04303b1478118df865"), looks := true }, kinds := [], alts := [], laidByText := true, laidKinds := [.handle], laidTests := true, laidLooks := .later }
def FnExactDevProgramCardSaid : Prop := Claim7.holds Tryz.pinned (.plain (OpenSpec.ofChange fnExactDevProgramSpec)) fnExactDevProgramCard

/-- THE TIED CARD OF 'laws.FnExactDevErase'. -/
def fnExactDevEraseCard : Claim7 := { stood := { row := fnExactDevEraseRow, standIns := [], harness := (true, "338bafb50936bb9b271962caa15347a70f1ba88c1ee46a04303b1478118df865"), looks := true }, kinds := [], alts := [], laidByText := true, laidKinds := [.handle], laidTests := true, laidLooks := .later }
def FnExactDevEraseCardSaid : Prop := Claim7.holds Tryz.pinned (.plain (OpenSpec.ofChange fnExactDevEraseSpec)) fnExactDevEraseCard

/-- THE TIED CARD OF 'laws.FnDevs'. -/
def fnDevsCard : Claim7 := { stood := { row := fnDevsRow, standIns := [], harness := (true, "338bafb50936bb9b271962caa15347a70f1ba88c1ee46a04303b1478118df865"), looks := true }, kinds := [], alts := [], laidByText := true, laidKinds := [.handle], laidTests := true, laidLooks := .later }
def FnDevsCardSaid : Prop := Claim7.holds Tryz.pinned (.plain (OpenSpec.ofChange fnDevsSpec)) fnDevsCard

/-- THE TIED CARD OF 'laws.FnDevErased'. -/
def fnDevErasedCard : Claim7 := { stood := { row := fnDevErasedRow, standIns := [], harness := (true, "338bafb50936bb9b271962caa15347a70f1ba88c1ee46a04303b1478118df865"), looks := true }, kinds := [], alts := [], laidByText := true, laidKinds := [.handle], laidTests := true, laidLooks := .later }
def FnDevErasedCardSaid : Prop := Claim7.holds Tryz.pinned (.plain (OpenSpec.ofChange fnDevErasedSpec)) fnDevErasedCard

/-- THE TIED CARD OF 'laws.FnPowers'. -/
def fnPowersCard : Claim7 := { stood := { row := fnPowersRow, standIns := [], harness := (true, "338bafb50936bb9b271962caa15347a70f1ba88c1ee46a04303b1478118df865"), looks := true }, kinds := [], alts := [], laidByText := true, laidKinds := [.handle], laidTests := true, laidLooks := .later }
def FnPowersCardSaid : Prop := Claim7.holds Tryz.pinned (.plain (OpenSpec.ofChange fnPowersSpec)) fnPowersCard

/-- THE SECOND FORM's CARD OF 'laws.FnExactDevProgram'. -/
def fnExactDevProgramUptoCard : Claim7 := { stood := { row := fnExactDevProgramUptoRow, standIns := [], harness := (true, "338bafb50936bb9b271962caa15347a70f1ba88c1ee46a04303b1478118df865"), looks := true }, kinds := [], alts := [], laidByText := true, laidKinds := [.handle], laidTests := true, laidLooks := .later }
def FnExactDevProgramUptoCardSaid : Prop := Claim7.holds Tryz.pinned (.plain (OpenSpec.upto fnExactDevProgramSpec)) fnExactDevProgramUptoCard

/-- THE SECOND FORM's CARD OF 'laws.FnExactDevErase'. -/
def fnExactDevEraseUptoCard : Claim7 := { stood := { row := fnExactDevEraseUptoRow, standIns := [], harness := (true, "338bafb50936bb9b271962caa15347a70f1ba88c1ee46a04303b1478118df865"), looks := true }, kinds := [], alts := [], laidByText := true, laidKinds := [.handle], laidTests := true, laidLooks := .later }
def FnExactDevEraseUptoCardSaid : Prop := Claim7.holds Tryz.pinned (.plain (OpenSpec.upto fnExactDevEraseSpec)) fnExactDevEraseUptoCard

/-- THE SECOND FORM's CARD OF 'laws.FnDevs'. -/
def fnDevsUptoCard : Claim7 := { stood := { row := fnDevsUptoRow, standIns := [], harness := (true, "338bafb50936bb9b271962caa15347a70f1ba88c1ee46a04303b1478118df865"), looks := true }, kinds := [], alts := [], laidByText := true, laidKinds := [.handle], laidTests := true, laidLooks := .later }
def FnDevsUptoCardSaid : Prop := Claim7.holds Tryz.pinned (.plain (OpenSpec.upto fnDevsSpec)) fnDevsUptoCard

/-- THE SECOND FORM's CARD OF 'laws.FnDevErased'. -/
def fnDevErasedUptoCard : Claim7 := { stood := { row := fnDevErasedUptoRow, standIns := [], harness := (true, "338bafb50936bb9b271962caa15347a70f1ba88c1ee46a04303b1478118df865"), looks := true }, kinds := [], alts := [], laidByText := true, laidKinds := [.handle], laidTests := true, laidLooks := .later }
def FnDevErasedUptoCardSaid : Prop := Claim7.holds Tryz.pinned (.plain (OpenSpec.upto fnDevErasedSpec)) fnDevErasedUptoCard

/-- THE SECOND FORM's CARD OF 'laws.FnPowers'. -/
def fnPowersUptoCard : Claim7 := { stood := { row := fnPowersUptoRow, standIns := [], harness := (true, "338bafb50936bb9b271962caa15347a70f1ba88c1ee46a04303b1478118df865"), looks := true }, kinds := [], alts := [], laidByText := true, laidKinds := [.handle], laidTests := true, laidLooks := .later }
def FnPowersUptoCardSaid : Prop := Claim7.holds Tryz.pinned (.plain (OpenSpec.upto fnPowersSpec)) fnPowersUptoCard
end Rows
end Go.Proofs.YtkhgafmhbibikaaGreatDoor
