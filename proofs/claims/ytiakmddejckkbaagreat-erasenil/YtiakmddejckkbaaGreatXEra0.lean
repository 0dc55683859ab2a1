/- Calls of cordonlaw20.alive, reckoned. -/
import Derived.Test.YtiakmddejckkbaaGreatXEraD
namespace Go.Proofs.YtiakmddejckkbaaGreat

set_option maxRecDepth 1000000 in
theorem era0_seg : segX Tryz.prog (orX cloneX (tabX [])) 5000 erakeep0 era0 = true := by kernel_rfl

end Go.Proofs.YtiakmddejckkbaaGreat
