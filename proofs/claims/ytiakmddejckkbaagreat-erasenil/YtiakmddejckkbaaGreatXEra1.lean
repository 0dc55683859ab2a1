/- Calls of cordonlaw20.alive, reckoned. -/
import Derived.Test.YtiakmddejckkbaaGreatXEraD
namespace Go.Proofs.YtiakmddejckkbaaGreat

set_option maxRecDepth 1000000 in
theorem era1_seg : segX Tryz.prog (orX cloneX (tabX [era0])) 5000 erakeep1 era1 = true := by kernel_rfl

end Go.Proofs.YtiakmddejckkbaaGreat
