/- Calls of cordonlaw08.SchemaNil, reckoned. -/
import Derived.Test.YtiakmddejckkbaaGreatXSchD
namespace Go.Proofs.YtiakmddejckkbaaGreat

set_option maxRecDepth 1000000 in
theorem sch3_seg : segB Tryz.prog [sch0, sch1, sch2] 5000 schkeep3 sch3 = true := by kernel_rfl

end Go.Proofs.YtiakmddejckkbaaGreat
