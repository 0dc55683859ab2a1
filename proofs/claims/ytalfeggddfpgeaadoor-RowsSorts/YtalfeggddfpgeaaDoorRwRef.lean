/- The document's In, Distinct, Part and Same of lists of rows. -/
import Derived.Test.YtalfeggddfpgeaaDoorRwMem
import Derived.Test.YtalfeggddfpgeaaDoorSameRow
namespace Go.Proofs.YtalfeggddfpgeaaDoor
open Go.RowKit Go.Sort

/-- Rows of at most 60 values. -/
def Small (L : List Row) : Prop := ∀ r ∈ L, r.length ≤ 60
theorem Small.at {L : List Row} (h : Small L) {k : Nat} (hk : k < L.length) : L[k].length ≤ 60 := h _ (List.getElem_mem hk)
theorem memB_take {L : List Row} {r : Row} {k : Nat} (hk : k < L.length) : memB (L.take (k + 1)) r = (memB (L.take k) r || sameB L[k] r) := by
  rw [List.take_succ_eq_append_getElem hk, sameB_eq, memB, List.any_append]
  simp only [List.any_cons, List.any_nil, Bool.or_false]
  rfl

/-- A slice of rows of the calls' own, whose rows lie in a world below. -/
theorem Own1.rows {w0 w : World} {base : Nat} {v : Value} {xs : List Value} {L : List Row} (h : Own1 w base 30 v xs) (ha : AllLie w0 xs L) (k : Below w0.heap.size w0 w) : LiesR w v L := h.lies.rows (ha.keep k)

theorem Small.of_mem {L M : List Row} (h : Small L) (hm : ∀ r ∈ M, r ∈ L) : Small M := fun r hr => h r (hm r hr)
theorem Small.dist {L : List Row} (h : Small L) : Small (distR L) := h.of_mem fun r hr => (mem_distR L r).1 hr
theorem Small.take {L : List Row} (h : Small L) (k : Nat) : Small (L.take k) := h.of_mem fun _ hr => List.mem_of_mem_take hr

/-- Of each row once those that are some of another list, or none. -/
def partR (A B : List Row) (some : Bool) : List Row := (distR A).filter fun r => memB B r == some
theorem filter_take {L : List Row} {p : Row → Bool} {k : Nat} (hk : k < L.length) : (L.take (k + 1)).filter p = (L.take k).filter p ++ (if p L[k] = true then [L[k]] else []) := by
  rw [List.take_succ_eq_append_getElem hk, List.filter_append]
  by_cases h : p L[k] = true <;> simp [h]

end Go.Proofs.YtalfeggddfpgeaaDoor
