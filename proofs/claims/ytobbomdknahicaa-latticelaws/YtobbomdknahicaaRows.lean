/-
  No cell of these rows narrows 'for every input' (looked for: loops, veiled, ifaces, maps, wideKeys, modest, calm, conditions, laid).
  DERIVED. THE GIVEN ROWS OF THIS SEAT. 6 by the template 'for every input the law returns true; each argument reads behind the call as it read before'; 0 by the template 'total and deterministic' (their statements: YtobbomdknahicaaTotals.lean).
  GIVEN WITH THE SEED: the statements are not yours to turn. If you find one false, say at which input.
  Laid BY PROGRAM, IN A SANDBOX (cutbox-rows.mjs): the forced cells as the released guide's own fill.sh prints them over the translation 9ed0cf01ec3d49e8… (all of the seat's roots in one cut). By AI agents, Wed Nov 11 2026. No macro, syntax, notation, axiom, sorry.
-/
import Derived.Test.YtobbomdknahicaaChecked
import GoSem.Claim
import GoSem.ClaimJoined
import GoSem.ClaimMapViews
import Derived.JoinedTies
import Derived.KernelRfl
namespace Go.Proofs.Ytobbomdknahicaa
/- THE CELL 'sum', in the pinned program and in every row, IS THE sha256 OF THE DUMP (.gsa) THAT YtobbomdknahicaaProg.lean LOADS. Nothing in Lean hashes anything: it is a label: what it is worth is what the hold of that sum in a sandbox is worth. -/
noncomputable def Try.pinned : Pinned := { name := "ytobbomdknahicaa", sum := "9ed0cf01ec3d49e846d3d5a4a95c71c003fa66a21da9f11609fe0bfed37f6d85", checked := Try.checked }
namespace Rows
def none {H : Type} : Left H := { results := [], args := [] }

/-- 'cordonlaw03.LatticeMakes': WHATEVER THE INPUT: true; the input reads as it did. -/
def latticeMakesSpec : ChangeSpec := { name := "latticeMakes", fn := fun _ => fun
  | [d1, d2, d3] => { results := [.lit (.bool true)], args := [d1, d2, d3] }
  | _ => none }
def latticeMakesRow : OpenClaim := { program := "ytobbomdknahicaa", sum := "9ed0cf01ec3d49e846d3d5a4a95c71c003fa66a21da9f11609fe0bfed37f6d85", func := "cordon/cordonlaw03.LatticeMakes", spec := "latticeMakes", apart := false }
def LatticeMakesSaid : Prop := latticeMakesRow.holds Try.pinned (OpenSpec.ofChange latticeMakesSpec)

/-- ITS FALSE NEIGHBOUR: 'it returns false'. Refute it at one input. -/
def latticeMakesWrong : ChangeSpec := { name := "latticeMakes", fn := fun _ => fun
  | [d1, d2, d3] => { results := [.lit (.bool false)], args := [d1, d2, d3] }
  | _ => none }
def LatticeMakesWrongFalsely : Prop := latticeMakesRow.holds Try.pinned (OpenSpec.ofChange latticeMakesWrong)

/-- 'cordonlaw03.LatticeTables': WHATEVER THE INPUT: true; the input reads as it did. -/
def latticeTablesSpec : ChangeSpec := { name := "latticeTables", fn := fun _ => fun
  | [d1, d2, d3, d4] => { results := [.lit (.bool true)], args := [d1, d2, d3, d4] }
  | _ => none }
def latticeTablesRow : OpenClaim := { program := "ytobbomdknahicaa", sum := "9ed0cf01ec3d49e846d3d5a4a95c71c003fa66a21da9f11609fe0bfed37f6d85", func := "cordon/cordonlaw03.LatticeTables", spec := "latticeTables", apart := false }
def LatticeTablesSaid : Prop := latticeTablesRow.holds Try.pinned (OpenSpec.ofChange latticeTablesSpec)

/-- ITS FALSE NEIGHBOUR: 'it returns false'. Refute it at one input. -/
def latticeTablesWrong : ChangeSpec := { name := "latticeTables", fn := fun _ => fun
  | [d1, d2, d3, d4] => { results := [.lit (.bool false)], args := [d1, d2, d3, d4] }
  | _ => none }
def LatticeTablesWrongFalsely : Prop := latticeTablesRow.holds Try.pinned (OpenSpec.ofChange latticeTablesWrong)

/-- 'cordonlaw03.LatticeLaws': WHATEVER THE INPUT: true; the input reads as it did. -/
def latticeLawsSpec : ChangeSpec := { name := "latticeLaws", fn := fun _ => fun
  | [d1, d2] => { results := [.lit (.bool true)], args := [d1, d2] }
  | _ => none }
def latticeLawsRow : OpenClaim := { program := "ytobbomdknahicaa", sum := "9ed0cf01ec3d49e846d3d5a4a95c71c003fa66a21da9f11609fe0bfed37f6d85", func := "cordon/cordonlaw03.LatticeLaws", spec := "latticeLaws", apart := false }
def LatticeLawsSaid : Prop := latticeLawsRow.holds Try.pinned (OpenSpec.ofChange latticeLawsSpec)

/-- ITS FALSE NEIGHBOUR: 'it returns false'. Refute it at one input. -/
def latticeLawsWrong : ChangeSpec := { name := "latticeLaws", fn := fun _ => fun
  | [d1, d2] => { results := [.lit (.bool false)], args := [d1, d2] }
  | _ => none }
def LatticeLawsWrongFalsely : Prop := latticeLawsRow.holds Try.pinned (OpenSpec.ofChange latticeLawsWrong)

/-- 'cordonlaw03.LatticeEdges': WHATEVER THE INPUT: true; the input reads as it did. -/
def latticeEdgesSpec : ChangeSpec := { name := "latticeEdges", fn := fun _ => fun
  | [d1, d2, d3] => { results := [.lit (.bool true)], args := [d1, d2, d3] }
  | _ => none }
def latticeEdgesRow : OpenClaim := { program := "ytobbomdknahicaa", sum := "9ed0cf01ec3d49e846d3d5a4a95c71c003fa66a21da9f11609fe0bfed37f6d85", func := "cordon/cordonlaw03.LatticeEdges", spec := "latticeEdges", apart := false }
def LatticeEdgesSaid : Prop := latticeEdgesRow.holds Try.pinned (OpenSpec.ofChange latticeEdgesSpec)

/-- ITS FALSE NEIGHBOUR: 'it returns false'. Refute it at one input. -/
def latticeEdgesWrong : ChangeSpec := { name := "latticeEdges", fn := fun _ => fun
  | [d1, d2, d3] => { results := [.lit (.bool false)], args := [d1, d2, d3] }
  | _ => none }
def LatticeEdgesWrongFalsely : Prop := latticeEdgesRow.holds Try.pinned (OpenSpec.ofChange latticeEdgesWrong)

/-- 'cordonlaw03.LatticeNil': WHATEVER THE INPUT: true; the input reads as it did. -/
def latticeNilSpec : ChangeSpec := { name := "latticeNil", fn := fun _ => fun
  | [d1, d2, d3] => { results := [.lit (.bool true)], args := [d1, d2, d3] }
  | _ => none }
def latticeNilRow : OpenClaim := { program := "ytobbomdknahicaa", sum := "9ed0cf01ec3d49e846d3d5a4a95c71c003fa66a21da9f11609fe0bfed37f6d85", func := "cordon/cordonlaw03.LatticeNil", spec := "latticeNil", apart := false }
def LatticeNilSaid : Prop := latticeNilRow.holds Try.pinned (OpenSpec.ofChange latticeNilSpec)

/-- ITS FALSE NEIGHBOUR: 'it returns false'. Refute it at one input. -/
def latticeNilWrong : ChangeSpec := { name := "latticeNil", fn := fun _ => fun
  | [d1, d2, d3] => { results := [.lit (.bool false)], args := [d1, d2, d3] }
  | _ => none }
def LatticeNilWrongFalsely : Prop := latticeNilRow.holds Try.pinned (OpenSpec.ofChange latticeNilWrong)

/-- 'cordonlaw03.LatticeTurned': WHATEVER THE INPUT: true; the input reads as it did. -/
def latticeTurnedSpec : ChangeSpec := { name := "latticeTurned", fn := fun _ => fun
  | [d1, d2] => { results := [.lit (.bool true)], args := [d1, d2] }
  | _ => none }
def latticeTurnedRow : OpenClaim := { program := "ytobbomdknahicaa", sum := "9ed0cf01ec3d49e846d3d5a4a95c71c003fa66a21da9f11609fe0bfed37f6d85", func := "cordon/cordonlaw03.LatticeTurned", spec := "latticeTurned", apart := false }
def LatticeTurnedSaid : Prop := latticeTurnedRow.holds Try.pinned (OpenSpec.ofChange latticeTurnedSpec)

/-- ITS FALSE NEIGHBOUR: 'it returns false'. Refute it at one input. -/
def latticeTurnedWrong : ChangeSpec := { name := "latticeTurned", fn := fun _ => fun
  | [d1, d2] => { results := [.lit (.bool false)], args := [d1, d2] }
  | _ => none }
def LatticeTurnedWrongFalsely : Prop := latticeTurnedRow.holds Try.pinned (OpenSpec.ofChange latticeTurnedWrong)

/- THE SECOND FORM. 'bulk': how many values and letters a reading holds, each counted each time it is reached (what is shared counts as often as it is met; a slice's spare places count too). A statement '..UptoSaid' is the law's where the arguments, and the package variables that the reading takes, are together of bulk at most 1048576: NARROWER than '..Said'. Prove '..Said' where nothing that the law and all that it calls make is longer than what came in: it says more and counts as full. Else prove '..UptoSaid'. A law counts once. -/
mutual
def uptoBulk {H : Type} : DataW H → Nat
  | .lit (.string bytes) => bytes.length + 1
  | .lit _ => 1
  | .nil => 1
  | .ptr d => uptoBulk d + 1
  | .slice elems spare => uptoBulkAll elems + uptoBulkAll spare + 1
  | .agg parts => uptoBulkAll parts + 1
  | .iface _ d => uptoBulk d + 1
  | .map entries => uptoBulkEntries entries + 1
  | .held _ => 1
def uptoBulkAll {H : Type} : List (DataW H) → Nat
  | [] => 0
  | d :: r => uptoBulk d + uptoBulkAll r
def uptoBulkEntries {H : Type} : List (Lit × DataW H) → Nat
  | [] => 0
  | x :: r => uptoBulkEntry x + uptoBulkEntries r
def uptoBulkEntry {H : Type} : Lit × DataW H → Nat
  | (.string bytes, d) => bytes.length + uptoBulk d + 1
  | (_, d) => uptoBulk d + 1
 end
def uptoSmall : (H : Type) → List (DataW H) → Bool := fun _ ds => decide (uptoBulkAll ds ≤ 1048576)
def OpenSpec.upto (s : _root_.Go.ChangeSpec) : _root_.Go.OpenSpec := { _root_.Go.OpenSpec.ofChange s with cond := some uptoSmall }

/-- 'cordonlaw03.LatticeMakes', WHERE WHAT IT READS IS OF BULK AT MOST 1048576: true; the input reads as it did. -/
def latticeMakesUptoRow : OpenClaim := { program := "ytobbomdknahicaa", sum := "9ed0cf01ec3d49e846d3d5a4a95c71c003fa66a21da9f11609fe0bfed37f6d85", func := "cordon/cordonlaw03.LatticeMakes", spec := "latticeMakes", apart := false, narrowed := true }
def LatticeMakesUptoSaid : Prop := latticeMakesUptoRow.holds Try.pinned (OpenSpec.upto latticeMakesSpec)

/-- 'cordonlaw03.LatticeTables', WHERE WHAT IT READS IS OF BULK AT MOST 1048576: true; the input reads as it did. -/
def latticeTablesUptoRow : OpenClaim := { program := "ytobbomdknahicaa", sum := "9ed0cf01ec3d49e846d3d5a4a95c71c003fa66a21da9f11609fe0bfed37f6d85", func := "cordon/cordonlaw03.LatticeTables", spec := "latticeTables", apart := false, narrowed := true }
def LatticeTablesUptoSaid : Prop := latticeTablesUptoRow.holds Try.pinned (OpenSpec.upto latticeTablesSpec)

/-- 'cordonlaw03.LatticeLaws', WHERE WHAT IT READS IS OF BULK AT MOST 1048576: true; the input reads as it did. -/
def latticeLawsUptoRow : OpenClaim := { program := "ytobbomdknahicaa", sum := "9ed0cf01ec3d49e846d3d5a4a95c71c003fa66a21da9f11609fe0bfed37f6d85", func := "cordon/cordonlaw03.LatticeLaws", spec := "latticeLaws", apart := false, narrowed := true }
def LatticeLawsUptoSaid : Prop := latticeLawsUptoRow.holds Try.pinned (OpenSpec.upto latticeLawsSpec)

/-- 'cordonlaw03.LatticeEdges', WHERE WHAT IT READS IS OF BULK AT MOST 1048576: true; the input reads as it did. -/
def latticeEdgesUptoRow : OpenClaim := { program := "ytobbomdknahicaa", sum := "9ed0cf01ec3d49e846d3d5a4a95c71c003fa66a21da9f11609fe0bfed37f6d85", func := "cordon/cordonlaw03.LatticeEdges", spec := "latticeEdges", apart := false, narrowed := true }
def LatticeEdgesUptoSaid : Prop := latticeEdgesUptoRow.holds Try.pinned (OpenSpec.upto latticeEdgesSpec)

/-- 'cordonlaw03.LatticeNil', WHERE WHAT IT READS IS OF BULK AT MOST 1048576: true; the input reads as it did. -/
def latticeNilUptoRow : OpenClaim := { program := "ytobbomdknahicaa", sum := "9ed0cf01ec3d49e846d3d5a4a95c71c003fa66a21da9f11609fe0bfed37f6d85", func := "cordon/cordonlaw03.LatticeNil", spec := "latticeNil", apart := false, narrowed := true }
def LatticeNilUptoSaid : Prop := latticeNilUptoRow.holds Try.pinned (OpenSpec.upto latticeNilSpec)

/-- 'cordonlaw03.LatticeTurned', WHERE WHAT IT READS IS OF BULK AT MOST 1048576: true; the input reads as it did. -/
def latticeTurnedUptoRow : OpenClaim := { program := "ytobbomdknahicaa", sum := "9ed0cf01ec3d49e846d3d5a4a95c71c003fa66a21da9f11609fe0bfed37f6d85", func := "cordon/cordonlaw03.LatticeTurned", spec := "latticeTurned", apart := false, narrowed := true }
def LatticeTurnedUptoSaid : Prop := latticeTurnedUptoRow.holds Try.pinned (OpenSpec.upto latticeTurnedSpec)

end Rows
end Go.Proofs.Ytobbomdknahicaa
