/- Calls of cordonlaw20.alive, reckoned. -/
import Derived.Test.YtiakmddejckkbaaGreatXEraD
namespace Go.Proofs.YtiakmddejckkbaaGreat

set_option maxRecDepth 1000000 in
theorem era2_seg : segX Tryz.prog (orX cloneX (tabX [era0, era1])) 5000 erakeep2 era2 = true := by kernel_rfl
set_option maxRecDepth 1000000 in
theorem era3_seg : segX Tryz.prog (orX cloneX (tabX [era0, era1, era2])) 5000 erakeep3 era3 = true := by kernel_rfl

end Go.Proofs.YtiakmddejckkbaaGreat
