/-
  DERIVED. GIVEN WITH THE SEED: THE CARDS: each row of YtailfiofcicloaaGreatDoorRows.lean that lists a variable, with what it lists TIED to the program's text (the seventh form; the later family's looks); each row that meets fmt, with fmt's text TOLD by the authors' own Lean function (tested against real Go, not proved from fmt's source: count such statements apart). THE CARD IS WHAT COUNTS. Prove the row's statement (the work); the ties are given (YtailfiofcicloaaGreatDoorTie.lean); close each card by the builder's one call (the guide's Derived/Test/ToyasCard.lean, 'card_holds'). Laid BY PROGRAM, IN A SANDBOX (cutbox-door.mjs). By AI agents, Wed Nov 11 2026. No macro, syntax, notation, axiom, sorry.
-/
import Derived.Test.YtailfiofcicloaaGreatDoorRows
import GoSem.ClaimSeven
namespace Go.Proofs.YtailfiofcicloaaGreatDoor
namespace Rows

/-- THE TIED CARD OF 'cordonlaw06.SyntaxRound'. -/
def syntaxRoundCard : Claim7 := { stood := { row := syntaxRoundRow, standIns := [], harness := (true, "7b9b278eef655a64a8e017bdf23ec51170e6677a43637154f5b1d937b78b2790"), looks := false }, kinds := [], alts := [], laidByText := true, laidKinds := [.data, .pinned], laidTests := true, laidLooks := .later }
def SyntaxRoundCardSaid : Prop := Claim7.holds Tryz.pinned (.plain (OpenSpec.ofChange syntaxRoundSpec)) syntaxRoundCard

/-- THE SECOND FORM's CARD OF 'cordonlaw06.SyntaxRound'. -/
def syntaxRoundUptoCard : Claim7 := { stood := { row := syntaxRoundUptoRow, standIns := [], harness := (true, "7b9b278eef655a64a8e017bdf23ec51170e6677a43637154f5b1d937b78b2790"), looks := false }, kinds := [], alts := [], laidByText := true, laidKinds := [.data, .pinned], laidTests := true, laidLooks := .later }
def SyntaxRoundUptoCardSaid : Prop := Claim7.holds Tryz.pinned (.plain (OpenSpec.upto syntaxRoundSpec)) syntaxRoundUptoCard
end Rows
end Go.Proofs.YtailfiofcicloaaGreatDoor
