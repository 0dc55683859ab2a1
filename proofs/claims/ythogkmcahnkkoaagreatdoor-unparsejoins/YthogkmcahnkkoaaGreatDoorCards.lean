/-
  DERIVED. GIVEN WITH THE SEED: THE CARDS: each row of YthogkmcahnkkoaaGreatDoorRows.lean that lists a variable, with what it lists TIED to the program's text (the seventh form; the later family's looks); each row that meets fmt, with fmt's text TOLD by the authors' own Lean function (tested against real Go, not proved from fmt's source: count such statements apart). THE CARD IS WHAT COUNTS. Prove the row's statement (the work); the ties are given (YthogkmcahnkkoaaGreatDoorTie.lean); close each card by the builder's one call (the guide's Derived/Test/ToyasCard.lean, 'card_holds'). Laid BY PROGRAM, IN A SANDBOX (cutbox-door.mjs). By AI agents, Wed Nov 11 2026. No macro, syntax, notation, axiom, sorry.
-/
import Derived.Test.YthogkmcahnkkoaaGreatDoorRows
import GoSem.ClaimSeven
namespace Go.Proofs.YthogkmcahnkkoaaGreatDoor
namespace Rows

/-- THE TIED CARD OF 'cordonlaw07.UnparseJoins'. -/
def unparseJoinsCard : Claim7 := { stood := { row := unparseJoinsRow, standIns := [], harness := (true, "a360885b7baff00a9278849ca7d466c7d5d89f52003123616572bfb599790acd"), looks := false }, kinds := [], alts := [], laidByText := true, laidKinds := [.data, .data, .data, .data, .pinned], laidTests := true, laidLooks := .later }
def UnparseJoinsCardSaid : Prop := Claim7.holds Tryz.pinned (.plain (OpenSpec.ofChange unparseJoinsSpec)) unparseJoinsCard

/-- THE SECOND FORM's CARD OF 'cordonlaw07.UnparseJoins'. -/
def unparseJoinsUptoCard : Claim7 := { stood := { row := unparseJoinsUptoRow, standIns := [], harness := (true, "a360885b7baff00a9278849ca7d466c7d5d89f52003123616572bfb599790acd"), looks := false }, kinds := [], alts := [], laidByText := true, laidKinds := [.data, .data, .data, .data, .pinned], laidTests := true, laidLooks := .later }
def UnparseJoinsUptoCardSaid : Prop := Claim7.holds Tryz.pinned (.plain (OpenSpec.upto unparseJoinsSpec)) unparseJoinsUptoCard
end Rows
end Go.Proofs.YthogkmcahnkkoaaGreatDoor
