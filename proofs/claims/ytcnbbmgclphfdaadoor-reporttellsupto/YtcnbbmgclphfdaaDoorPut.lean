/- Contracts of putInt, putText and putValue: what bytes they lay behind those of the slice that they are handed. -/
import Derived.Test.YtcnbbmgclphfdaaDoorOwn
namespace Go.Proofs.YtcnbbmgclphfdaaDoor
open Go.RowKit Go.Sort

/-- A text's bytes, each 0 followed by 255. -/
def esc : List UInt8 → List UInt8
  | [] => []
  | b :: r => if b = 0 then 0 :: 255 :: esc r else b :: esc r
theorem esc_append (l m : List UInt8) : esc (l ++ m) = esc l ++ esc m := by
  induction l with
  | nil => rfl
  | cons b l ih =>
    by_cases hb : b = 0
    · simp [esc, hb, ih]
    · simp [esc, hb, ih]
theorem esc_length_le (l : List UInt8) : (esc l).length ≤ 2 * l.length := by
  induction l with
  | nil => simp [esc]
  | cons b l ih =>
    by_cases hb : b = 0
    · simp [esc, hb]; omega
    · simp [esc, hb]; omega
/-- The first k bytes of a text. -/
abbrev pre (s : ByteArray) (k : Nat) : List UInt8 := s.data.toList.take k
theorem pre_succ (s : ByteArray) (k : Nat) (h : k < s.size) : pre s (k + 1) = pre s k ++ [s[k]] := by
  have h' : k < s.data.toList.length := by simpa using h
  unfold pre
  rw [List.take_succ_eq_append_getElem h']
  rfl
theorem pre_all (s : ByteArray) : pre s s.size = s.data.toList := List.take_of_length_le (by simp)
theorem pre_length (s : ByteArray) (k : Nat) : (pre s k).length ≤ k := by simp [pre]; omega

end Go.Proofs.YtcnbbmgclphfdaaDoor
