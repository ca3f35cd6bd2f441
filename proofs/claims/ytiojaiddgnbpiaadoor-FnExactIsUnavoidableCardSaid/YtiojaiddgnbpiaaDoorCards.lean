/-
  DERIVED. GIVEN WITH THE SEED: THE CARDS: each row of YtiojaiddgnbpiaaDoorRows.lean that lists a variable, with what it lists TIED to the program's text (the seventh form; the later family's looks); each row that meets fmt, with fmt's text TOLD by the authors' own Lean function (tested against real Go, not proved from fmt's source: count such statements apart). THE CARD IS WHAT COUNTS. Prove the row's statement (the work); the ties are given (YtiojaiddgnbpiaaDoorTie.lean); close each card by the builder's one call (the guide's Derived/Test/ToyasCard.lean, 'card_holds'). Laid BY PROGRAM, IN A SANDBOX (cutbox-door.mjs). By AI agents, Wed Nov 11 2026. No macro, syntax, notation, axiom, sorry.
-/
import Derived.Test.YtiojaiddgnbpiaaDoorRows
import GoSem.ClaimSeven
namespace Go.Proofs.YtiojaiddgnbpiaaDoor
namespace Rows

/-- THE TIED CARD OF 'laws.FnExactHasPattern'. -/
def fnExactHasPatternCard : Claim7 := { stood := { row := fnExactHasPatternRow, standIns := [], harness := (true, "2643205bb4223dfa963e6d1ed6e3278379d38534fff8e5a7f41a9bc4594de191"), looks := true }, kinds := [], alts := [], laidByText := true, laidKinds := [.data, .pinned], laidTests := true, laidLooks := .later }
def FnExactHasPatternCardSaid : Prop := Claim7.holds Tryd.pinned (.plain (OpenSpec.ofChange fnExactHasPatternSpec)) fnExactHasPatternCard

/-- THE TIED CARD OF 'laws.FnExactFitsPattern'. -/
def fnExactFitsPatternCard : Claim7 := { stood := { row := fnExactFitsPatternRow, standIns := [], harness := (true, "2643205bb4223dfa963e6d1ed6e3278379d38534fff8e5a7f41a9bc4594de191"), looks := true }, kinds := [], alts := [], laidByText := true, laidKinds := [.data, .pinned], laidTests := true, laidLooks := .later }
def FnExactFitsPatternCardSaid : Prop := Claim7.holds Tryd.pinned (.plain (OpenSpec.ofChange fnExactFitsPatternSpec)) fnExactFitsPatternCard

/-- THE TIED CARD OF 'laws.FnExactFirstPlace'. -/
def fnExactFirstPlaceCard : Claim7 := { stood := { row := fnExactFirstPlaceRow, standIns := [], harness := (true, "2643205bb4223dfa963e6d1ed6e3278379d38534fff8e5a7f41a9bc4594de191"), looks := true }, kinds := [], alts := [], laidByText := true, laidKinds := [.data, .pinned], laidTests := true, laidLooks := .later }
def FnExactFirstPlaceCardSaid : Prop := Claim7.holds Tryd.pinned (.plain (OpenSpec.ofChange fnExactFirstPlaceSpec)) fnExactFirstPlaceCard

/-- THE TIED CARD OF 'laws.FnExactCountAvoiding'. -/
def fnExactCountAvoidingCard : Claim7 := { stood := { row := fnExactCountAvoidingRow, standIns := [], harness := (true, "2643205bb4223dfa963e6d1ed6e3278379d38534fff8e5a7f41a9bc4594de191"), looks := true }, kinds := [], alts := [], laidByText := true, laidKinds := [.data, .pinned], laidTests := true, laidLooks := .later }
def FnExactCountAvoidingCardSaid : Prop := Claim7.holds Tryd.pinned (.plain (OpenSpec.ofChange fnExactCountAvoidingSpec)) fnExactCountAvoidingCard

/-- THE TIED CARD OF 'laws.FnExactFirstAvoiding'. -/
def fnExactFirstAvoidingCard : Claim7 := { stood := { row := fnExactFirstAvoidingRow, standIns := [], harness := (true, "2643205bb4223dfa963e6d1ed6e3278379d38534fff8e5a7f41a9bc4594de191"), looks := true }, kinds := [], alts := [], laidByText := true, laidKinds := [.data, .pinned], laidTests := true, laidLooks := .later }
def FnExactFirstAvoidingCardSaid : Prop := Claim7.holds Tryd.pinned (.plain (OpenSpec.ofChange fnExactFirstAvoidingSpec)) fnExactFirstAvoidingCard

/-- THE TIED CARD OF 'laws.FnExactLongestAvoiding'. -/
def fnExactLongestAvoidingCard : Claim7 := { stood := { row := fnExactLongestAvoidingRow, standIns := [], harness := (true, "2643205bb4223dfa963e6d1ed6e3278379d38534fff8e5a7f41a9bc4594de191"), looks := true }, kinds := [], alts := [], laidByText := true, laidKinds := [.data, .pinned], laidTests := true, laidLooks := .later }
def FnExactLongestAvoidingCardSaid : Prop := Claim7.holds Tryd.pinned (.plain (OpenSpec.ofChange fnExactLongestAvoidingSpec)) fnExactLongestAvoidingCard

/-- THE TIED CARD OF 'laws.FnExactIsUnavoidable'. -/
def fnExactIsUnavoidableCard : Claim7 := { stood := { row := fnExactIsUnavoidableRow, standIns := [], harness := (true, "2643205bb4223dfa963e6d1ed6e3278379d38534fff8e5a7f41a9bc4594de191"), looks := true }, kinds := [], alts := [], laidByText := true, laidKinds := [.data, .pinned], laidTests := true, laidLooks := .later }
def FnExactIsUnavoidableCardSaid : Prop := Claim7.holds Tryd.pinned (.plain (OpenSpec.ofChange fnExactIsUnavoidableSpec)) fnExactIsUnavoidableCard

/-- THE TIED CARD OF 'laws.FnExactIsPattern'. -/
def fnExactIsPatternCard : Claim7 := { stood := { row := fnExactIsPatternRow, standIns := [], harness := (true, "2643205bb4223dfa963e6d1ed6e3278379d38534fff8e5a7f41a9bc4594de191"), looks := true }, kinds := [], alts := [], laidByText := true, laidKinds := [.data, .pinned], laidTests := true, laidLooks := .later }
def FnExactIsPatternCardSaid : Prop := Claim7.holds Tryd.pinned (.plain (OpenSpec.ofChange fnExactIsPatternSpec)) fnExactIsPatternCard

/-- THE TIED CARD OF 'laws.FnPatterns'. -/
def fnPatternsCard : Claim7 := { stood := { row := fnPatternsRow, standIns := [], harness := (true, "2643205bb4223dfa963e6d1ed6e3278379d38534fff8e5a7f41a9bc4594de191"), looks := true }, kinds := [], alts := [], laidByText := true, laidKinds := [.data, .pinned], laidTests := true, laidLooks := .later }
def FnPatternsCardSaid : Prop := Claim7.holds Tryd.pinned (.plain (OpenSpec.ofChange fnPatternsSpec)) fnPatternsCard

/-- THE TIED CARD OF 'laws.FnSquareMakers'. -/
def fnSquareMakersCard : Claim7 := { stood := { row := fnSquareMakersRow, standIns := [], harness := (true, "2643205bb4223dfa963e6d1ed6e3278379d38534fff8e5a7f41a9bc4594de191"), looks := true }, kinds := [], alts := [], laidByText := true, laidKinds := [.data, .pinned], laidTests := true, laidLooks := .later }
def FnSquareMakersCardSaid : Prop := Claim7.holds Tryd.pinned (.plain (OpenSpec.ofChange fnSquareMakersSpec)) fnSquareMakersCard

/-- THE SECOND FORM's CARD OF 'laws.FnExactHasPattern'. -/
def fnExactHasPatternUptoCard : Claim7 := { stood := { row := fnExactHasPatternUptoRow, standIns := [], harness := (true, "2643205bb4223dfa963e6d1ed6e3278379d38534fff8e5a7f41a9bc4594de191"), looks := true }, kinds := [], alts := [], laidByText := true, laidKinds := [.data, .pinned], laidTests := true, laidLooks := .later }
def FnExactHasPatternUptoCardSaid : Prop := Claim7.holds Tryd.pinned (.plain (OpenSpec.upto fnExactHasPatternSpec)) fnExactHasPatternUptoCard

/-- THE SECOND FORM's CARD OF 'laws.FnExactFitsPattern'. -/
def fnExactFitsPatternUptoCard : Claim7 := { stood := { row := fnExactFitsPatternUptoRow, standIns := [], harness := (true, "2643205bb4223dfa963e6d1ed6e3278379d38534fff8e5a7f41a9bc4594de191"), looks := true }, kinds := [], alts := [], laidByText := true, laidKinds := [.data, .pinned], laidTests := true, laidLooks := .later }
def FnExactFitsPatternUptoCardSaid : Prop := Claim7.holds Tryd.pinned (.plain (OpenSpec.upto fnExactFitsPatternSpec)) fnExactFitsPatternUptoCard

/-- THE SECOND FORM's CARD OF 'laws.FnExactFirstPlace'. -/
def fnExactFirstPlaceUptoCard : Claim7 := { stood := { row := fnExactFirstPlaceUptoRow, standIns := [], harness := (true, "2643205bb4223dfa963e6d1ed6e3278379d38534fff8e5a7f41a9bc4594de191"), looks := true }, kinds := [], alts := [], laidByText := true, laidKinds := [.data, .pinned], laidTests := true, laidLooks := .later }
def FnExactFirstPlaceUptoCardSaid : Prop := Claim7.holds Tryd.pinned (.plain (OpenSpec.upto fnExactFirstPlaceSpec)) fnExactFirstPlaceUptoCard

/-- THE SECOND FORM's CARD OF 'laws.FnExactCountAvoiding'. -/
def fnExactCountAvoidingUptoCard : Claim7 := { stood := { row := fnExactCountAvoidingUptoRow, standIns := [], harness := (true, "2643205bb4223dfa963e6d1ed6e3278379d38534fff8e5a7f41a9bc4594de191"), looks := true }, kinds := [], alts := [], laidByText := true, laidKinds := [.data, .pinned], laidTests := true, laidLooks := .later }
def FnExactCountAvoidingUptoCardSaid : Prop := Claim7.holds Tryd.pinned (.plain (OpenSpec.upto fnExactCountAvoidingSpec)) fnExactCountAvoidingUptoCard

/-- THE SECOND FORM's CARD OF 'laws.FnExactFirstAvoiding'. -/
def fnExactFirstAvoidingUptoCard : Claim7 := { stood := { row := fnExactFirstAvoidingUptoRow, standIns := [], harness := (true, "2643205bb4223dfa963e6d1ed6e3278379d38534fff8e5a7f41a9bc4594de191"), looks := true }, kinds := [], alts := [], laidByText := true, laidKinds := [.data, .pinned], laidTests := true, laidLooks := .later }
def FnExactFirstAvoidingUptoCardSaid : Prop := Claim7.holds Tryd.pinned (.plain (OpenSpec.upto fnExactFirstAvoidingSpec)) fnExactFirstAvoidingUptoCard

/-- THE SECOND FORM's CARD OF 'laws.FnExactLongestAvoiding'. -/
def fnExactLongestAvoidingUptoCard : Claim7 := { stood := { row := fnExactLongestAvoidingUptoRow, standIns := [], harness := (true, "2643205bb4223dfa963e6d1ed6e3278379d38534fff8e5a7f41a9bc4594de191"), looks := true }, kinds := [], alts := [], laidByText := true, laidKinds := [.data, .pinned], laidTests := true, laidLooks := .later }
def FnExactLongestAvoidingUptoCardSaid : Prop := Claim7.holds Tryd.pinned (.plain (OpenSpec.upto fnExactLongestAvoidingSpec)) fnExactLongestAvoidingUptoCard

/-- THE SECOND FORM's CARD OF 'laws.FnExactIsUnavoidable'. -/
def fnExactIsUnavoidableUptoCard : Claim7 := { stood := { row := fnExactIsUnavoidableUptoRow, standIns := [], harness := (true, "2643205bb4223dfa963e6d1ed6e3278379d38534fff8e5a7f41a9bc4594de191"), looks := true }, kinds := [], alts := [], laidByText := true, laidKinds := [.data, .pinned], laidTests := true, laidLooks := .later }
def FnExactIsUnavoidableUptoCardSaid : Prop := Claim7.holds Tryd.pinned (.plain (OpenSpec.upto fnExactIsUnavoidableSpec)) fnExactIsUnavoidableUptoCard

/-- THE SECOND FORM's CARD OF 'laws.FnExactIsPattern'. -/
def fnExactIsPatternUptoCard : Claim7 := { stood := { row := fnExactIsPatternUptoRow, standIns := [], harness := (true, "2643205bb4223dfa963e6d1ed6e3278379d38534fff8e5a7f41a9bc4594de191"), looks := true }, kinds := [], alts := [], laidByText := true, laidKinds := [.data, .pinned], laidTests := true, laidLooks := .later }
def FnExactIsPatternUptoCardSaid : Prop := Claim7.holds Tryd.pinned (.plain (OpenSpec.upto fnExactIsPatternSpec)) fnExactIsPatternUptoCard

/-- THE SECOND FORM's CARD OF 'laws.FnPatterns'. -/
def fnPatternsUptoCard : Claim7 := { stood := { row := fnPatternsUptoRow, standIns := [], harness := (true, "2643205bb4223dfa963e6d1ed6e3278379d38534fff8e5a7f41a9bc4594de191"), looks := true }, kinds := [], alts := [], laidByText := true, laidKinds := [.data, .pinned], laidTests := true, laidLooks := .later }
def FnPatternsUptoCardSaid : Prop := Claim7.holds Tryd.pinned (.plain (OpenSpec.upto fnPatternsSpec)) fnPatternsUptoCard

/-- THE SECOND FORM's CARD OF 'laws.FnSquareMakers'. -/
def fnSquareMakersUptoCard : Claim7 := { stood := { row := fnSquareMakersUptoRow, standIns := [], harness := (true, "2643205bb4223dfa963e6d1ed6e3278379d38534fff8e5a7f41a9bc4594de191"), looks := true }, kinds := [], alts := [], laidByText := true, laidKinds := [.data, .pinned], laidTests := true, laidLooks := .later }
def FnSquareMakersUptoCardSaid : Prop := Claim7.holds Tryd.pinned (.plain (OpenSpec.upto fnSquareMakersSpec)) fnSquareMakersUptoCard
end Rows
end Go.Proofs.YtiojaiddgnbpiaaDoor
