/- Calls of cordonlaw20.alive, reckoned. -/
import Derived.Test.YtiakmddejckkbaaGreatXEraD
namespace Go.Proofs.YtiakmddejckkbaaGreat

set_option maxRecDepth 1000000 in
theorem era4_seg : segX Tryz.prog (orX cloneX (tabX [era0, era1, era2, era3])) 5000 erakeep4 era4 = true := by kernel_rfl
set_option maxRecDepth 1000000 in
theorem era5_seg : segX Tryz.prog (orX cloneX (tabX [era0, era1, era2, era3, era4])) 5000 erakeep5 era5 = true := by kernel_rfl

end Go.Proofs.YtiakmddejckkbaaGreat
