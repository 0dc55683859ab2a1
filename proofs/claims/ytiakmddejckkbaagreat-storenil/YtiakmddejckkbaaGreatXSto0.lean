/- Calls of cordonlaw12.StoreNil, reckoned. -/
import Derived.Test.YtiakmddejckkbaaGreatXStoD
namespace Go.Proofs.YtiakmddejckkbaaGreat

set_option maxRecDepth 1000000 in
theorem sto0_seg : segB Tryz.prog [] 5000 stokeep0 sto0 = true := by kernel_rfl

end Go.Proofs.YtiakmddejckkbaaGreat
