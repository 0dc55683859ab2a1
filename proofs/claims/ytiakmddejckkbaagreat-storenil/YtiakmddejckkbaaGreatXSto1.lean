/- Calls of cordonlaw12.StoreNil, reckoned. -/
import Derived.Test.YtiakmddejckkbaaGreatXStoD
namespace Go.Proofs.YtiakmddejckkbaaGreat

set_option maxRecDepth 1000000 in
theorem sto1_seg : segB Tryz.prog [sto0] 5000 stokeep1 sto1 = true := by kernel_rfl

end Go.Proofs.YtiakmddejckkbaaGreat
