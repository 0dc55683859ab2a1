/- Calls of cordonlaw08.SchemaNil, reckoned. -/
import Derived.Test.YtiakmddejckkbaaGreatXSchD
namespace Go.Proofs.YtiakmddejckkbaaGreat

set_option maxRecDepth 1000000 in
theorem sch1_seg : segB Tryz.prog [sch0] 5000 schkeep1 sch1 = true := by kernel_rfl
set_option maxRecDepth 1000000 in
theorem sch2_seg : segB Tryz.prog [sch0, sch1] 5000 schkeep2 sch2 = true := by kernel_rfl

end Go.Proofs.YtiakmddejckkbaaGreat
