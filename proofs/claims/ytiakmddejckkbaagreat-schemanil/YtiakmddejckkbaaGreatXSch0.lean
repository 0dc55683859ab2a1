/- Calls of cordonlaw08.SchemaNil, reckoned. -/
import Derived.Test.YtiakmddejckkbaaGreatXSchD
namespace Go.Proofs.YtiakmddejckkbaaGreat

set_option maxRecDepth 1000000 in
theorem sch0_seg : segB Tryz.prog [] 5000 schkeep0 sch0 = true := by kernel_rfl

end Go.Proofs.YtiakmddejckkbaaGreat
