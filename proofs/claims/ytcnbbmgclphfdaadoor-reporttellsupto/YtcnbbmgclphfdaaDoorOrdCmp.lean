/- Contracts of cmp.Compare and cmp.Or as Order uses them, of Order itself, and of Less. -/
import Derived.Test.YtcnbbmgclphfdaaDoorLogic
import Derived.Test.YtcnbbmgclphfdaaDoorGrow
import Derived.Test.YtcnbbmgclphfdaaDoorOrdPlain
import Derived.LoopN
import Derived.Deep.Light
namespace Go.Proofs.YtcnbbmgclphfdaaDoor
open Go.RowKit Go.Sort

abbrev ptr (q : Nat) : Value := .pointer (some ⟨q, 0, none⟩)

/-- The first of three that is not 0. -/
def or3i (p r u : Int) : Int := if p = 0 then (if r = 0 then u else r) else p
theorem ordV_or (t n : Int) (s : ByteArray) (t' n' : Int) (s' : ByteArray) : ordV t n s t' n' s' = or3i (ordI t t') (ordI n n') (ordL s.toList s'.toList) := rfl

end Go.Proofs.YtcnbbmgclphfdaaDoor
