/- The document's comparison of statements: two that read as the same are the same. -/
import Derived.Test.YthogkmcahnkkoaaGreatDoorJ20
namespace Go.Proofs.YthogkmcahnkkoaaGreatDoor
open Go.RowKit
set_option maxRecDepth 10000
set_option linter.unusedSimpArgs false
set_option linter.unusedVariables false
end Go.Proofs.YthogkmcahnkkoaaGreatDoor
