/- Contract of the document's own 'one': the bytes of a right value. -/
import Derived.Test.YtcnbbmgclphfdaaDoorPutV
namespace Go.Proofs.YtcnbbmgclphfdaaDoor
open Go.RowKit Go.Sort

/-- The last k bytes of a number. -/
def tailN (B : Nat) : Nat → List UInt8
  | 0 => []
  | k + 1 => UInt8.ofNat (B / 256 ^ k) :: tailN B k
theorem tailN_all (B : Nat) : tailN B 8 = encN B := by simp [tailN, encN]
theorem tailN_length (B k : Nat) : (tailN B k).length = k := by
  induction k with
  | zero => rfl
  | succ k ih => simp [tailN, ih]

theorem plus_u64 {n : Int} (hn : inR n) : IntKind.u64.wrap (IntKind.u64.wrap n + 9223372036854775808) = n + 9223372036854775808 := by
  unfold inR at hn
  have hw : ∀ z, IntKind.u64.wrap z = z % 18446744073709551616 := fun z => by simp [IntKind.wrap, IntKind.signed, IntKind.bits]
  rw [hw, hw]
  omega

theorem quo_u64 {C : Nat} (h : C < 18446744073709551616) : IntKind.u64.wrap ((C : Int) / 256) = ((C / 256 : Nat) : Int) := by
  have hw : ∀ z, IntKind.u64.wrap z = z % 18446744073709551616 := fun z => by simp [IntKind.wrap, IntKind.signed, IntKind.bits]
  rw [hw]
  omega

end Go.Proofs.YtcnbbmgclphfdaaDoor
