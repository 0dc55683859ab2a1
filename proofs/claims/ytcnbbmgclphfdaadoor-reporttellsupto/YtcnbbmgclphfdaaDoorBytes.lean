/- A text from one of its places on. -/
import Derived.Test.YtcnbbmgclphfdaaDoorBase
namespace Go.Proofs.YtcnbbmgclphfdaaDoor

theorem drop_succ (s : ByteArray) (k : Nat) (h : k < s.size) : s.data.toList.drop k = s[k] :: s.data.toList.drop (k + 1) := by
  have h' : k < s.data.toList.length := by simpa using h
  rw [List.drop_eq_getElem_cons h']
  rfl

end Go.Proofs.YtcnbbmgclphfdaaDoor
