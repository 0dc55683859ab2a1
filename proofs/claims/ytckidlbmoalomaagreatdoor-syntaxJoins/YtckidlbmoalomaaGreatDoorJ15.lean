/- Contract of the document's Same. -/
import Derived.Test.YtckidlbmoalomaaGreatDoorJ13


namespace Go.Proofs.YtckidlbmoalomaaGreatDoor
open Go.RowKit Go.Sort

end Go.Proofs.YtckidlbmoalomaaGreatDoor
