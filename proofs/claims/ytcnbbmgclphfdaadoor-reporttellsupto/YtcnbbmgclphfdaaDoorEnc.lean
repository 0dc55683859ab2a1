/- Contract of Encode: the row's bytes, or the error. -/
import Derived.Test.YtcnbbmgclphfdaaDoorRows2
namespace Go.Proofs.YtcnbbmgclphfdaaDoor
open Go.RowKit Go.Sort

end Go.Proofs.YtcnbbmgclphfdaaDoor
