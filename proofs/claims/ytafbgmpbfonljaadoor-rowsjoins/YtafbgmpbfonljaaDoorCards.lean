/-
  DERIVED. GIVEN WITH THE SEED: THE CARDS: each row of YtafbgmpbfonljaaDoorRows.lean that lists a variable, with what it lists TIED to the program's text (the seventh form; the later family's looks); each row that meets fmt, with fmt's text TOLD by the authors' own Lean function (tested against real Go, not proved from fmt's source: count such statements apart). THE CARD IS WHAT COUNTS. Prove the row's statement (the work); the ties are given (YtafbgmpbfonljaaDoorTie.lean); close each card by the builder's one call (the guide's Derived/Test/ToyasCard.lean, 'card_holds'). Laid BY PROGRAM, IN A SANDBOX (cutbox-door.mjs). By AI agents, Wed Nov 11 2026. No macro, syntax, notation, axiom, sorry.
-/
import Derived.Test.YtafbgmpbfonljaaDoorRows
import GoSem.ClaimSeven
namespace Go.Proofs.YtafbgmpbfonljaaDoor
namespace Rows

/-- THE TIED CARD OF 'cordonlaw11.RowsSets'. -/
def rowsSetsCard : Claim7 := { stood := { row := rowsSetsRow, standIns := [], harness := (true, "a66d9479c2e285c5f4f8e822bc4c073fe29bb55cb73e47900693d2b834addeb9"), looks := false }, kinds := [], alts := [], laidByText := true, laidKinds := [.data, .data, .data], laidTests := true, laidLooks := .later }
def RowsSetsCardSaid : Prop := Claim7.holds Tryd.pinned (.plain (OpenSpec.ofChange rowsSetsSpec)) rowsSetsCard

/-- THE TIED CARD OF 'cordonlaw11.RowsSorts'. -/
def rowsSortsCard : Claim7 := { stood := { row := rowsSortsRow, standIns := [], harness := (true, "a66d9479c2e285c5f4f8e822bc4c073fe29bb55cb73e47900693d2b834addeb9"), looks := false }, kinds := [], alts := [], laidByText := true, laidKinds := [.data, .data, .data], laidTests := true, laidLooks := .later }
def RowsSortsCardSaid : Prop := Claim7.holds Tryd.pinned (.plain (OpenSpec.ofChange rowsSortsSpec)) rowsSortsCard

/-- THE TIED CARD OF 'cordonlaw11.RowsJoins'. -/
def rowsJoinsCard : Claim7 := { stood := { row := rowsJoinsRow, standIns := [], harness := (true, "a66d9479c2e285c5f4f8e822bc4c073fe29bb55cb73e47900693d2b834addeb9"), looks := false }, kinds := [], alts := [], laidByText := true, laidKinds := [.data, .data, .data], laidTests := true, laidLooks := .later }
def RowsJoinsCardSaid : Prop := Claim7.holds Tryd.pinned (.plain (OpenSpec.ofChange rowsJoinsSpec)) rowsJoinsCard

/-- THE TIED CARD OF 'cordonlaw11.RowsParts'. -/
def rowsPartsCard : Claim7 := { stood := { row := rowsPartsRow, standIns := [], harness := (true, "a66d9479c2e285c5f4f8e822bc4c073fe29bb55cb73e47900693d2b834addeb9"), looks := false }, kinds := [], alts := [], laidByText := true, laidKinds := [.data, .data, .data], laidTests := true, laidLooks := .later }
def RowsPartsCardSaid : Prop := Claim7.holds Tryd.pinned (.plain (OpenSpec.ofChange rowsPartsSpec)) rowsPartsCard

/-- THE TIED CARD OF 'cordonlaw11.RowsOrder'. -/
def rowsOrderCard : Claim7 := { stood := { row := rowsOrderRow, standIns := [], harness := (true, "a66d9479c2e285c5f4f8e822bc4c073fe29bb55cb73e47900693d2b834addeb9"), looks := false }, kinds := [], alts := [], laidByText := true, laidKinds := [.data, .data, .data], laidTests := true, laidLooks := .later }
def RowsOrderCardSaid : Prop := Claim7.holds Tryd.pinned (.plain (OpenSpec.ofChange rowsOrderSpec)) rowsOrderCard

/-- THE TIED CARD OF 'cordonlaw11.RowsGroups'. -/
def rowsGroupsCard : Claim7 := { stood := { row := rowsGroupsRow, standIns := [], harness := (true, "a66d9479c2e285c5f4f8e822bc4c073fe29bb55cb73e47900693d2b834addeb9"), looks := false }, kinds := [], alts := [], laidByText := true, laidKinds := [.data, .data, .data], laidTests := true, laidLooks := .later }
def RowsGroupsCardSaid : Prop := Claim7.holds Tryd.pinned (.plain (OpenSpec.ofChange rowsGroupsSpec)) rowsGroupsCard

/-- THE SECOND FORM's CARD OF 'cordonlaw11.RowsSets'. -/
def rowsSetsUptoCard : Claim7 := { stood := { row := rowsSetsUptoRow, standIns := [], harness := (true, "a66d9479c2e285c5f4f8e822bc4c073fe29bb55cb73e47900693d2b834addeb9"), looks := false }, kinds := [], alts := [], laidByText := true, laidKinds := [.data, .data, .data], laidTests := true, laidLooks := .later }
def RowsSetsUptoCardSaid : Prop := Claim7.holds Tryd.pinned (.plain (OpenSpec.upto rowsSetsSpec)) rowsSetsUptoCard

/-- THE SECOND FORM's CARD OF 'cordonlaw11.RowsSorts'. -/
def rowsSortsUptoCard : Claim7 := { stood := { row := rowsSortsUptoRow, standIns := [], harness := (true, "a66d9479c2e285c5f4f8e822bc4c073fe29bb55cb73e47900693d2b834addeb9"), looks := false }, kinds := [], alts := [], laidByText := true, laidKinds := [.data, .data, .data], laidTests := true, laidLooks := .later }
def RowsSortsUptoCardSaid : Prop := Claim7.holds Tryd.pinned (.plain (OpenSpec.upto rowsSortsSpec)) rowsSortsUptoCard

/-- THE SECOND FORM's CARD OF 'cordonlaw11.RowsJoins'. -/
def rowsJoinsUptoCard : Claim7 := { stood := { row := rowsJoinsUptoRow, standIns := [], harness := (true, "a66d9479c2e285c5f4f8e822bc4c073fe29bb55cb73e47900693d2b834addeb9"), looks := false }, kinds := [], alts := [], laidByText := true, laidKinds := [.data, .data, .data], laidTests := true, laidLooks := .later }
def RowsJoinsUptoCardSaid : Prop := Claim7.holds Tryd.pinned (.plain (OpenSpec.upto rowsJoinsSpec)) rowsJoinsUptoCard

/-- THE SECOND FORM's CARD OF 'cordonlaw11.RowsParts'. -/
def rowsPartsUptoCard : Claim7 := { stood := { row := rowsPartsUptoRow, standIns := [], harness := (true, "a66d9479c2e285c5f4f8e822bc4c073fe29bb55cb73e47900693d2b834addeb9"), looks := false }, kinds := [], alts := [], laidByText := true, laidKinds := [.data, .data, .data], laidTests := true, laidLooks := .later }
def RowsPartsUptoCardSaid : Prop := Claim7.holds Tryd.pinned (.plain (OpenSpec.upto rowsPartsSpec)) rowsPartsUptoCard

/-- THE SECOND FORM's CARD OF 'cordonlaw11.RowsOrder'. -/
def rowsOrderUptoCard : Claim7 := { stood := { row := rowsOrderUptoRow, standIns := [], harness := (true, "a66d9479c2e285c5f4f8e822bc4c073fe29bb55cb73e47900693d2b834addeb9"), looks := false }, kinds := [], alts := [], laidByText := true, laidKinds := [.data, .data, .data], laidTests := true, laidLooks := .later }
def RowsOrderUptoCardSaid : Prop := Claim7.holds Tryd.pinned (.plain (OpenSpec.upto rowsOrderSpec)) rowsOrderUptoCard

/-- THE SECOND FORM's CARD OF 'cordonlaw11.RowsGroups'. -/
def rowsGroupsUptoCard : Claim7 := { stood := { row := rowsGroupsUptoRow, standIns := [], harness := (true, "a66d9479c2e285c5f4f8e822bc4c073fe29bb55cb73e47900693d2b834addeb9"), looks := false }, kinds := [], alts := [], laidByText := true, laidKinds := [.data, .data, .data], laidTests := true, laidLooks := .later }
def RowsGroupsUptoCardSaid : Prop := Claim7.holds Tryd.pinned (.plain (OpenSpec.upto rowsGroupsSpec)) rowsGroupsUptoCard
end Rows
end Go.Proofs.YtafbgmpbfonljaaDoor
