/-
  DERIVED. GIVEN WITH THE SEED: THE CARDS: each row of YtcohppfocfepdaaDoorRows.lean that lists a variable, with what it lists TIED to the program's text (the seventh form; the later family's looks); each row that meets fmt, with fmt's text TOLD by the authors' own Lean function (tested against real Go, not proved from fmt's source: count such statements apart). THE CARD IS WHAT COUNTS. Prove the row's statement (the work); the ties are given (YtcohppfocfepdaaDoorTie.lean); close each card by the builder's one call (the guide's Derived/Test/ToyasCard.lean, 'card_holds'). Laid BY PROGRAM, IN A SANDBOX (cutbox-door.mjs). By AI agents, Wed Nov 11 2026. No macro, syntax, notation, axiom, sorry.
-/
import Derived.Test.YtcohppfocfepdaaDoorRows
import GoSem.ClaimSeven
namespace Go.Proofs.YtcohppfocfepdaaDoor
namespace Rows

/-- THE TIED CARD OF 'laws.FnErased'. -/
def fnErasedCard : Claim7 := { stood := { row := fnErasedRow, standIns := [], harness := (true, "99f478863bc5a0ac47f784f6f9c20c5b80e8d02d2fe765be38a074740e3ad44d"), looks := true }, kinds := [], alts := [], laidByText := true, laidKinds := [.handle], laidTests := true, laidLooks := .later }
def FnErasedCardSaid : Prop := Claim7.holds Tryd.pinned (.plain (OpenSpec.ofChange fnErasedSpec)) fnErasedCard

/-- THE TIED CARD OF 'laws.FnChips'. -/
def fnChipsCard : Claim7 := { stood := { row := fnChipsRow, standIns := [], harness := (true, "99f478863bc5a0ac47f784f6f9c20c5b80e8d02d2fe765be38a074740e3ad44d"), looks := true }, kinds := [], alts := [], laidByText := true, laidKinds := [.handle], laidTests := true, laidLooks := .later }
def FnChipsCardSaid : Prop := Claim7.holds Tryd.pinned (.plain (OpenSpec.ofChange fnChipsSpec)) fnChipsCard

/-- THE SECOND FORM's CARD OF 'laws.FnErased'. -/
def fnErasedUptoCard : Claim7 := { stood := { row := fnErasedUptoRow, standIns := [], harness := (true, "99f478863bc5a0ac47f784f6f9c20c5b80e8d02d2fe765be38a074740e3ad44d"), looks := true }, kinds := [], alts := [], laidByText := true, laidKinds := [.handle], laidTests := true, laidLooks := .later }
def FnErasedUptoCardSaid : Prop := Claim7.holds Tryd.pinned (.plain (OpenSpec.upto fnErasedSpec)) fnErasedUptoCard

/-- THE SECOND FORM's CARD OF 'laws.FnChips'. -/
def fnChipsUptoCard : Claim7 := { stood := { row := fnChipsUptoRow, standIns := [], harness := (true, "99f478863bc5a0ac47f784f6f9c20c5b80e8d02d2fe765be38a074740e3ad44d"), looks := true }, kinds := [], alts := [], laidByText := true, laidKinds := [.handle], laidTests := true, laidLooks := .later }
def FnChipsUptoCardSaid : Prop := Claim7.holds Tryd.pinned (.plain (OpenSpec.upto fnChipsSpec)) fnChipsUptoCard
end Rows
end Go.Proofs.YtcohppfocfepdaaDoor
