/- Calls of cordonlaw12.StoreNil, reckoned. -/
import Derived.Test.YtiakmddejckkbaaGreatXStoD
namespace Go.Proofs.YtiakmddejckkbaaGreat

set_option maxRecDepth 1000000 in
theorem sto2_seg : segB Tryz.prog [sto0, sto1] 5000 stokeep2 sto2 = true := by kernel_rfl

end Go.Proofs.YtiakmddejckkbaaGreat
