/- Contracts of the document's own texts, ints and Order. -/
import Derived.Test.YtcnbbmgclphfdaaDoorOrdCmp
import Derived.Test.YtcnbbmgclphfdaaDoorBytes
namespace Go.Proofs.YtcnbbmgclphfdaaDoor
open Go.RowKit Go.Sort

theorem ordL_cons (x y : UInt8) (a b : List UInt8) : ordL (x :: a) (y :: b) = if x = y then ordL a b else if x < y then -1 else 1 := by
  unfold ordL
  by_cases h : x = y
  · subst h; simp [Op.bytesLess, UInt8.lt_irrefl]
  · rcases UInt8.lt_or_lt_of_ne h with k | k
    · have : ¬ y < x := UInt8.not_lt.2 (UInt8.le_of_lt k)
      simp [Op.bytesLess, h, k]
    · have h1 : ¬ x < y := UInt8.not_lt.2 (UInt8.le_of_lt k)
      have h2 : ¬ y = x := fun e => h e.symm
      simp [Op.bytesLess, h, k, h1]
theorem ordL_nil_left (b : List UInt8) : ordL [] b = if b = [] then 0 else -1 := by cases b <;> simp [ordL, Op.bytesLess]
theorem ordL_nil_right (a : List UInt8) : ordL a [] = if a = [] then 0 else 1 := by cases a <;> simp [ordL, Op.bytesLess]

theorem nei {x y : Int} (h : x ≠ y) : (x != y) = true := by simpa using h
theorem eqi {x y : Int} (h : x = y) : (x != y) = false := by simpa using h

end Go.Proofs.YtcnbbmgclphfdaaDoor
