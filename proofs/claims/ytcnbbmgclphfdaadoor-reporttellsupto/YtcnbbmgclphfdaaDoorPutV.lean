/- Contract of putValue: the bytes of a right value. -/
import Derived.Test.YtcnbbmgclphfdaaDoorPutInt
namespace Go.Proofs.YtcnbbmgclphfdaaDoor
open Go.RowKit Go.Sort

/-- A value: its type, its number, its text. -/
abbrev Ent : Type := Int × Int × ByteArray
/-- The bytes of a right value. -/
def encV (e : Ent) : List UInt8 :=
  if e.1 = 1 then [UInt8.ofNat (2 + e.2.1.toNat)] else if e.1 = 2 then 4 :: encI e.2.1 else if e.1 = 3 then 5 :: (esc e.2.2.data.toList ++ [0, 0]) else [1]

end Go.Proofs.YtcnbbmgclphfdaaDoor
