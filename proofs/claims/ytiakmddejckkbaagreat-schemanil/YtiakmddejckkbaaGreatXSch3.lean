/- Calls of cordonlaw08.SchemaNil, reckoned. -/
import Derived.Test.YtiakmddejckkbaaGreatXSchD
namespace Go.Proofs.YtiakmddejckkbaaGreat

set_option maxRecDepth 1000000 in
theorem sch4_seg : segB Tryz.prog [sch0, sch1, sch2, sch3] 5000 schkeep4 sch4 = true := by kernel_rfl
set_option maxRecDepth 1000000 in
theorem sch5_seg : segB Tryz.prog [sch0, sch1, sch2, sch3, sch4] 5000 schkeep5 sch5 = true := by kernel_rfl

end Go.Proofs.YtiakmddejckkbaaGreat
