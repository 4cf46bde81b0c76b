/-
  DERIVED. GIVEN WITH THE SEED: THE CARDS: each row of YtkhgafmhbibikaaDoorRows.lean that lists a variable, with what it lists TIED to the program's text (the seventh form; the later family's looks); each row that meets fmt, with fmt's text TOLD by the authors' own Lean function (tested against real Go, not proved from fmt's source: count such statements apart). THE CARD IS WHAT COUNTS. Prove the row's statement (the work); the ties are given (YtkhgafmhbibikaaDoorTie.lean); close each card by the builder's one call (the guide's Derived/Test/ToyasCard.lean, 'card_holds'). Laid BY PROGRAM, IN A SANDBOX (cutbox-door.mjs). By AI agents, Wed Nov 11 2026. No macro, syntax, notation, axiom, sorry.
-/
import Derived.Test.YtkhgafmhbibikaaDoorRows
import GoSem.ClaimSeven
namespace Go.Proofs.YtkhgafmhbibikaaDoor
namespace Rows

/-- THE TIED CARD OF 'laws.FnExactProgram'. -/
def fnExactProgramCard : Claim7 := { stood := { row := fnExactProgramRow, standIns := [], harness := (true, "35aed6430e44cb72a59ed891b8be40e826091dce81ab4c27582320e1cecf6580"), looks := true }, kinds := [], alts := [], laidByText := true, laidKinds := [.handle], laidTests := true, laidLooks := .later }
def FnExactProgramCardSaid : Prop := Claim7.holds Tryd.pinned (.plain (OpenSpec.ofChange fnExactProgramSpec)) fnExactProgramCard

/-- THE TIED CARD OF 'laws.FnExactErase'. -/
def fnExactEraseCard : Claim7 := { stood := { row := fnExactEraseRow, standIns := [], harness := (true, "35aed6430e44cb72a59ed891b8be40e826091dce81ab4c27582320e1cecf6580"), looks := true }, kinds := [], alts := [], laidByText := true, laidKinds := [.handle], laidTests := true, laidLooks := .later }
def FnExactEraseCardSaid : Prop := Claim7.holds Tryd.pinned (.plain (OpenSpec.ofChange fnExactEraseSpec)) fnExactEraseCard

/-- THE TIED CARD OF 'laws.FnChips'. -/
def fnChipsCard : Claim7 := { stood := { row := fnChipsRow, standIns := [], harness := (true, "35aed6430e44cb72a59ed891b8be40e826091dce81ab4c27582320e1cecf6580"), looks := true }, kinds := [], alts := [], laidByText := true, laidKinds := [.handle], laidTests := true, laidLooks := .later }
def FnChipsCardSaid : Prop := Claim7.holds Tryd.pinned (.plain (OpenSpec.ofChange fnChipsSpec)) fnChipsCard

/-- THE TIED CARD OF 'laws.FnErased'. -/
def fnErasedCard : Claim7 := { stood := { row := fnErasedRow, standIns := [], harness := (true, "35aed6430e44cb72a59ed891b8be40e826091dce81ab4c27582320e1cecf6580"), looks := true }, kinds := [], alts := [], laidByText := true, laidKinds := [.handle], laidTests := true, laidLooks := .later }
def FnErasedCardSaid : Prop := Claim7.holds Tryd.pinned (.plain (OpenSpec.ofChange fnErasedSpec)) fnErasedCard

/-- THE TIED CARD OF 'laws.FnInTurn'. -/
def fnInTurnCard : Claim7 := { stood := { row := fnInTurnRow, standIns := [], harness := (true, "35aed6430e44cb72a59ed891b8be40e826091dce81ab4c27582320e1cecf6580"), looks := true }, kinds := [], alts := [], laidByText := true, laidKinds := [.handle], laidTests := true, laidLooks := .later }
def FnInTurnCardSaid : Prop := Claim7.holds Tryd.pinned (.plain (OpenSpec.ofChange fnInTurnSpec)) fnInTurnCard

/-- THE SECOND FORM's CARD OF 'laws.FnExactProgram'. -/
def fnExactProgramUptoCard : Claim7 := { stood := { row := fnExactProgramUptoRow, standIns := [], harness := (true, "35aed6430e44cb72a59ed891b8be40e826091dce81ab4c27582320e1cecf6580"), looks := true }, kinds := [], alts := [], laidByText := true, laidKinds := [.handle], laidTests := true, laidLooks := .later }
def FnExactProgramUptoCardSaid : Prop := Claim7.holds Tryd.pinned (.plain (OpenSpec.upto fnExactProgramSpec)) fnExactProgramUptoCard

/-- THE SECOND FORM's CARD OF 'laws.FnExactErase'. -/
def fnExactEraseUptoCard : Claim7 := { stood := { row := fnExactEraseUptoRow, standIns := [], harness := (true, "35aed6430e44cb72a59ed891b8be40e826091dce81ab4c27582320e1cecf6580"), looks := true }, kinds := [], alts := [], laidByText := true, laidKinds := [.handle], laidTests := true, laidLooks := .later }
def FnExactEraseUptoCardSaid : Prop := Claim7.holds Tryd.pinned (.plain (OpenSpec.upto fnExactEraseSpec)) fnExactEraseUptoCard

/-- THE SECOND FORM's CARD OF 'laws.FnChips'. -/
def fnChipsUptoCard : Claim7 := { stood := { row := fnChipsUptoRow, standIns := [], harness := (true, "35aed6430e44cb72a59ed891b8be40e826091dce81ab4c27582320e1cecf6580"), looks := true }, kinds := [], alts := [], laidByText := true, laidKinds := [.handle], laidTests := true, laidLooks := .later }
def FnChipsUptoCardSaid : Prop := Claim7.holds Tryd.pinned (.plain (OpenSpec.upto fnChipsSpec)) fnChipsUptoCard

/-- THE SECOND FORM's CARD OF 'laws.FnErased'. -/
def fnErasedUptoCard : Claim7 := { stood := { row := fnErasedUptoRow, standIns := [], harness := (true, "35aed6430e44cb72a59ed891b8be40e826091dce81ab4c27582320e1cecf6580"), looks := true }, kinds := [], alts := [], laidByText := true, laidKinds := [.handle], laidTests := true, laidLooks := .later }
def FnErasedUptoCardSaid : Prop := Claim7.holds Tryd.pinned (.plain (OpenSpec.upto fnErasedSpec)) fnErasedUptoCard

/-- THE SECOND FORM's CARD OF 'laws.FnInTurn'. -/
def fnInTurnUptoCard : Claim7 := { stood := { row := fnInTurnUptoRow, standIns := [], harness := (true, "35aed6430e44cb72a59ed891b8be40e826091dce81ab4c27582320e1cecf6580"), looks := true }, kinds := [], alts := [], laidByText := true, laidKinds := [.handle], laidTests := true, laidLooks := .later }
def FnInTurnUptoCardSaid : Prop := Claim7.holds Tryd.pinned (.plain (OpenSpec.upto fnInTurnSpec)) fnInTurnUptoCard
end Rows
end Go.Proofs.YtkhgafmhbibikaaDoor
