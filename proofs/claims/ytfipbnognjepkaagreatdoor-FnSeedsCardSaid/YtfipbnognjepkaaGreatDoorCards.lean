/-
  DERIVED. GIVEN WITH THE SEED: THE CARDS: each row of YtfipbnognjepkaaGreatDoorRows.lean that lists a variable, with what it lists TIED to the program's text (the seventh form; the later family's looks); each row that meets fmt, with fmt's text TOLD by the authors' own Lean function (tested against real Go, not proved from fmt's source: count such statements apart). THE CARD IS WHAT COUNTS. Prove the row's statement (the work); the ties are given (YtfipbnognjepkaaGreatDoorTie.lean); close each card by the builder's one call (the guide's Derived/Test/ToyasCard.lean, 'card_holds'). Laid BY PROGRAM, IN A SANDBOX (cutbox-door.mjs). By AI agents, Wed Nov 11 2026. No macro, syntax, notation, axiom, sorry.
-/
import Derived.Test.YtfipbnognjepkaaGreatDoorRows
import GoSem.ClaimSeven
namespace Go.Proofs.YtfipbnognjepkaaGreatDoor
namespace Rows

/-- THE TIED CARD OF 'laws.FnAvoiding'. -/
def fnAvoidingCard : Claim7 := { stood := { row := fnAvoidingRow, standIns := [], harness := (true, "b0876388fa759fa8a96e2c8454e756c15227dd15ce610625888a9991c7d9a175"), looks := true }, kinds := [], alts := [], laidByText := true, laidKinds := [.data, .pinned], laidTests := true, laidLooks := .later }
def FnAvoidingCardSaid : Prop := Claim7.holds Tryz.pinned (.plain (OpenSpec.ofChange fnAvoidingSpec)) fnAvoidingCard

/-- THE TIED CARD OF 'laws.FnSeeds'. -/
def fnSeedsCard : Claim7 := { stood := { row := fnSeedsRow, standIns := [], harness := (true, "b0876388fa759fa8a96e2c8454e756c15227dd15ce610625888a9991c7d9a175"), looks := true }, kinds := [], alts := [], laidByText := true, laidKinds := [.data], laidTests := true, laidLooks := .later }
def FnSeedsCardSaid : Prop := Claim7.holds Tryz.pinned (.plain (OpenSpec.ofChange fnSeedsSpec)) fnSeedsCard

/-- THE SECOND FORM's CARD OF 'laws.FnAvoiding'. -/
def fnAvoidingUptoCard : Claim7 := { stood := { row := fnAvoidingUptoRow, standIns := [], harness := (true, "b0876388fa759fa8a96e2c8454e756c15227dd15ce610625888a9991c7d9a175"), looks := true }, kinds := [], alts := [], laidByText := true, laidKinds := [.data, .pinned], laidTests := true, laidLooks := .later }
def FnAvoidingUptoCardSaid : Prop := Claim7.holds Tryz.pinned (.plain (OpenSpec.upto fnAvoidingSpec)) fnAvoidingUptoCard

/-- THE SECOND FORM's CARD OF 'laws.FnSeeds'. -/
def fnSeedsUptoCard : Claim7 := { stood := { row := fnSeedsUptoRow, standIns := [], harness := (true, "b0876388fa759fa8a96e2c8454e756c15227dd15ce610625888a9991c7d9a175"), looks := true }, kinds := [], alts := [], laidByText := true, laidKinds := [.data], laidTests := true, laidLooks := .later }
def FnSeedsUptoCardSaid : Prop := Claim7.holds Tryz.pinned (.plain (OpenSpec.upto fnSeedsSpec)) fnSeedsUptoCard
end Rows
end Go.Proofs.YtfipbnognjepkaaGreatDoor
