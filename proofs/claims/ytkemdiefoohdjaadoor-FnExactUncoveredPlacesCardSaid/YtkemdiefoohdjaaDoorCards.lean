/-
  DERIVED. GIVEN WITH THE SEED: THE CARDS: each row of YtkemdiefoohdjaaDoorRows.lean that lists a variable, with what it lists TIED to the program's text (the seventh form; the later family's looks); each row that meets fmt, with fmt's text TOLD by the authors' own Lean function (tested against real Go, not proved from fmt's source: count such statements apart). THE CARD IS WHAT COUNTS. Prove the row's statement (the work); the ties are given (YtkemdiefoohdjaaDoorTie.lean); close each card by the builder's one call (the guide's Derived/Test/ToyasCard.lean, 'card_holds'). Laid BY PROGRAM, IN A SANDBOX (cutbox-door.mjs). By AI agents, Wed Nov 11 2026. No macro, syntax, notation, axiom, sorry.
-/
import Derived.Test.YtkemdiefoohdjaaDoorRows
import GoSem.ClaimSeven
namespace Go.Proofs.YtkemdiefoohdjaaDoor
namespace Rows

/-- THE TIED CARD OF 'laws.FnExactUncoveredPlaces'. -/
def fnExactUncoveredPlacesCard : Claim7 := { stood := { row := fnExactUncoveredPlacesRow, standIns := [], harness := (true, "768a0f94408afc182ae124118dd6c73aa2685f50151d6df5de9451e2f7858c2f"), looks := true }, kinds := [], alts := [], laidByText := true, laidKinds := [.data], laidTests := true, laidLooks := .later }
def FnExactUncoveredPlacesCardSaid : Prop := Claim7.holds Tryd.pinned (.plain (OpenSpec.ofChange fnExactUncoveredPlacesSpec)) fnExactUncoveredPlacesCard

/-- THE SECOND FORM's CARD OF 'laws.FnExactUncoveredPlaces'. -/
def fnExactUncoveredPlacesUptoCard : Claim7 := { stood := { row := fnExactUncoveredPlacesUptoRow, standIns := [], harness := (true, "768a0f94408afc182ae124118dd6c73aa2685f50151d6df5de9451e2f7858c2f"), looks := true }, kinds := [], alts := [], laidByText := true, laidKinds := [.data], laidTests := true, laidLooks := .later }
def FnExactUncoveredPlacesUptoCardSaid : Prop := Claim7.holds Tryd.pinned (.plain (OpenSpec.upto fnExactUncoveredPlacesSpec)) fnExactUncoveredPlacesUptoCard
end Rows
end Go.Proofs.YtkemdiefoohdjaaDoor
