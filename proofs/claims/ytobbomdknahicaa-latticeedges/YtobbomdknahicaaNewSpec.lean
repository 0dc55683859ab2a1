/- What New's loops make, in plain words: names, edges, and rows of ways. -/
import Derived.Test.YtobbomdknahicaaLatSpec
namespace Go.Proofs.Ytobbomdknahicaa

theorem nameOk_at {L : List ByteArray} {k : Nat} (h : k < L.length) : nameOk L k = (!L[k].toList.isEmpty && decide (L[k].size ≤ 30) && !hasB (L.take k) L[k]) := by
  unfold nameOk
  rw [List.getElem?_eq_getElem h]
theorem namesOk_false {L : List ByteArray} {k : Nat} (h : k < L.length) (hk : nameOk L k = false) : namesOk L = false := by
  cases c : namesOk L with
  | false => rfl
  | true =>
    have := List.all_eq_true.1 c k (List.mem_range.2 h)
    rw [hk] at this; cases this
theorem namesOk_true {L : List ByteArray} (h : ∀ k, k < L.length → nameOk L k = true) : namesOk L = true := List.all_eq_true.2 fun k hk => h k (List.mem_range.1 hk)
theorem edgesOk_false {L : List ByteArray} {E : List (ByteArray × ByteArray)} {k : Nat} (h : k < E.length) (hk : (hasB L E[k].1 && hasB L E[k].2) = false) : edgesOk L E = false := by
  cases c : edgesOk L E with
  | false => rfl
  | true =>
    have := List.all_eq_true.1 c E[k] (List.getElem_mem h)
    rw [hk] at this; cases this
theorem edgesOk_true {L : List ByteArray} {E : List (ByteArray × ByteArray)} (h : ∀ k (hk : k < E.length), (hasB L E[k].1 && hasB L E[k].2) = true) : edgesOk L E = true := List.all_eq_true.2 fun e he => by
  obtain ⟨i, hi, rfl⟩ := List.getElem_of_mem he
  exact h i hi
theorem edges_at {L : List ByteArray} {E : List (ByteArray × ByteArray)} (h : edgesOk L E = true) {k : Nat} (hk : k < E.length) : hasB L E[k].1 = true ∧ hasB L E[k].2 = true := by
  have := List.all_eq_true.1 h E[k] (List.getElem_mem hk)
  simpa using this
theorem latErr_many {L : List ByteArray} {E : List (ByteArray × ByteArray)} (h : 16 < L.length ∨ 64 < E.length) : latErr L E = 8 := by unfold latErr; rw [if_pos h]
theorem latErr_names {L : List ByteArray} {E : List (ByteArray × ByteArray)} (h1 : L.length ≤ 16) (h2 : E.length ≤ 64) (h : namesOk L = false ∨ edgesOk L E = false) : latErr L E = 11 := by
  unfold latErr; rw [if_neg (by omega), if_pos h]
theorem latErr_rest {L : List ByteArray} {E : List (ByteArray × ByteArray)} (h1 : L.length ≤ 16) (h2 : E.length ≤ 64) (h3 : namesOk L = true) (h4 : edgesOk L E = true) :
    latErr L E = if L.length = 0 then 12 else if latOk (leL L E) L.length = true then 0 else 12 := by
  unfold latErr; rw [if_neg (by omega), if_neg (by simp [h3, h4])]
theorem latOk_false {le : Int → Int → Bool} {n a b : Nat} (ha : a < n) (hb : b < n) (h : pairOk le n (a : Int) (b : Int) = false) : latOk le n = false := by
  cases c : latOk le n with
  | false => rfl
  | true =>
    have := latOk_pair.1 c a b ha hb
    rw [h] at this; cases this

/-- A row of ways, as cells. -/
def rowAt (E : List (Nat × Nat)) (a k n : Nat) : List Value := (List.range n).map fun b => Value.bool (reach E a k b)
/-- The same, when so many edges have been gone through. -/
def rowP (E : List (Nat × Nat)) (a k j n : Nat) : List Value := (List.range n).map fun b => Value.bool (reach E a k b || (E.take j).any fun e => reach E a k e.1 && e.2 == b)
theorem rowAt_length (E : List (Nat × Nat)) (a k n : Nat) : (rowAt E a k n).length = n := by simp [rowAt]
theorem rowP_length (E : List (Nat × Nat)) (a k j n : Nat) : (rowP E a k j n).length = n := by simp [rowP]
theorem set_range {n : Nat} (f : Nat → Bool) (i : Nat) : ((List.range n).map fun b => Value.bool (f b)).set i (.bool true) = (List.range n).map fun b => Value.bool (f b || i == b) := by
  apply List.ext_getElem
  · simp
  · intro b h1 h2
    rw [List.getElem_set]
    by_cases c : i = b
    · simp [c]
    · simp [c]
theorem row_start {E : List (Nat × Nat)} {a n : Nat} : (List.replicate n (Value.bool false)).set a (.bool true) = rowAt E a 0 n := by
  have : List.replicate n (Value.bool false) = (List.range n).map fun b => Value.bool ((fun _ => false) b) := by
    apply List.ext_getElem
    · simp
    · intro b h1 h2; simp
  rw [this, set_range]
  simp [rowAt, reach]
theorem rowP_zero (E : List (Nat × Nat)) (a k n : Nat) : rowP E a k 0 n = rowAt E a k n := by simp [rowP, rowAt]
theorem rowP_all (E : List (Nat × Nat)) (a k n : Nat) : rowP E a k E.length n = rowAt E a (k + 1) n := by simp [rowP, rowAt, reach]
theorem rowP_succ {E : List (Nat × Nat)} {a k j n : Nat} (hj : j < E.length) : rowP E a k (j + 1) n = if reach E a k E[j].1 = true then (rowP E a k j n).set E[j].2 (.bool true) else rowP E a k j n := by
  have h : E.take (j + 1) = E.take j ++ [E[j]] := List.take_succ_eq_append_getElem hj
  unfold rowP
  by_cases c : reach E a k E[j].1 = true
  · rw [if_pos c, set_range, h]
    simp only [List.any_append, List.any_cons, List.any_nil, Bool.or_false, c, Bool.true_and, Bool.or_assoc]
  · rw [if_neg c, h]
    simp only [List.any_append, List.any_cons, List.any_nil, Bool.or_false, show reach E a k E[j].1 = false by simpa using c, Bool.false_and]
theorem rowAt_at {E : List (Nat × Nat)} {a k n b : Nat} (h : b < (rowAt E a k n).length) : (rowAt E a k n)[b] = .bool (reach E a k b) := by simp [rowAt]

end Go.Proofs.Ytobbomdknahicaa
