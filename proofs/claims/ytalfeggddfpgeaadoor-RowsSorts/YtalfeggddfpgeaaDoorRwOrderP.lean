/- What the law RowsOrder asks, without Go. -/
import Derived.Test.YtalfeggddfpgeaaDoorRwStable
import Derived.Test.YtalfeggddfpgeaaDoorRwOrdK
namespace Go.Proofs.YtalfeggddfpgeaaDoor
open Go.RowKit Go.Sort

theorem ordK_turned : ∀ (a b : Row) (m : Nat), a.length ≤ m → b.length ≤ m → ordK a b (List.replicate m true) = -ordK a b []
  | [], [], m, _, _ => by simp [ordK]
  | [], f :: b, m, _, h => by
    obtain ⟨k, rfl⟩ : ∃ k, m = k + 1 := ⟨m - 1, by simp at h; omega⟩
    simp [ordK, flipD, List.replicate_succ]
  | e :: a, [], m, h, _ => by
    obtain ⟨k, rfl⟩ : ∃ k, m = k + 1 := ⟨m - 1, by simp at h; omega⟩
    simp [ordK, flipD, List.replicate_succ]
  | e :: a, f :: b, m, h1, h2 => by
    obtain ⟨k, rfl⟩ : ∃ k, m = k + 1 := ⟨m - 1, by simp at h1; omega⟩
    have ih := ordK_turned a b k (by simpa using h1) (by simpa using h2)
    simp only [ordK, List.replicate_succ, List.tail_cons, List.tail_nil]
    by_cases c : ordE e f = 0
    · rw [if_pos c, if_pos c, ih]
    · rw [if_neg c, if_neg c]; simp [flipD]
/-- Rows put in order. -/
def rowsBy (L : List Row) (P : List Nat) : List Row := P.map fun k => L.getD k []
theorem rowsBy_range (L : List Row) : rowsBy L (List.range L.length) = L := by
  apply List.ext_getElem (by simp [rowsBy])
  intro i h1 h2
  simp [rowsBy, List.getD, h2]
theorem rowsBy_perm {L : List Row} {P : List Nat} (h : P.Perm (List.range L.length)) : (rowsBy L P).Perm L := by
  have := h.map (fun k => L.getD k [])
  have e := rowsBy_range L
  unfold rowsBy at e ⊢
  rwa [e] at this
theorem rowsBy_length {L : List Row} {P : List Nat} (h : P.Perm (List.range L.length)) : (rowsBy L P).length = L.length := by rw [rowsBy, List.length_map, h.length_eq]; simp
theorem rowsBy_at {L : List Row} {P : List Nat} {i : Nat} (h : i < (rowsBy L P).length) : (rowsBy L P)[i] = L.getD (nth P i) [] := by
  have h' : i < P.length := by simpa [rowsBy] using h
  simp [rowsBy, nth_get h']
theorem rowsBy_ord {L : List Row} {P : List Nat} {d : List Bool} (hp : P.Perm (List.range L.length)) (hs : SortedOn (cfK L d) P 0 L.length) {i j : Nat} (hij : i < j) (hj : j < (rowsBy L P).length) : ordK ((rowsBy L P)[i]'(by omega)) (rowsBy L P)[j] d ≤ 0 := by
  have hl := rowsBy_length hp
  rw [rowsBy_at, rowsBy_at]
  have := hs i j (Nat.zero_le _) hij (by omega)
  unfold lt cfK at this
  omega
theorem again {S : List Row} {P : List Nat} (hS : ∀ i j, (hij : i < j) → (hj : j < S.length) → ordK (S[i]'(by omega)) S[j] [] ≤ 0) (hp : P.Perm (List.range S.length)) (hs : SortedOn (cfK S []) P 0 S.length) : rowsBy S P = S := by
  have hl : P.length = S.length := by rw [hp.length_eq]; simp
  have : P = List.range S.length := sorted_unique (pre_cfK S []) hp (by rw [hl]; exact hs) (by
    intro k l _ h2 h3
    have h3' : l < S.length := by simpa using h3
    rw [nth_range (by omega), nth_range h3']
    have := hS k l h2 h3'
    have e1 : S.getD k [] = S[k] := by simp [List.getD, show k < S.length by omega]
    have e2 : S.getD l [] = S[l] := by simp [List.getD, h3']
    unfold lt cfK
    rw [e1, e2]
    omega)
  rw [this, rowsBy_range]
/-- How many rows of a list stand as one does. -/
def cntR (M : List Row) (x : Row) : Nat := M.countP fun r => ordK r x [] == 0
theorem cntR_take {M : List Row} {x : Row} {k : Nat} (h : k < M.length) : cntR (M.take (k + 1)) x = cntR (M.take k) x + (if (ordK M[k] x [] == 0) = true then 1 else 0) := by
  unfold cntR
  rw [List.take_succ_eq_append_getElem h, List.countP_append, List.countP_singleton]
theorem cntR_le (M : List Row) (x : Row) : cntR M x ≤ M.length := List.countP_le_length
theorem cntR_perm {M L : List Row} (h : M.Perm L) (x : Row) : cntR M x = cntR L x := h.countP_eq _

end Go.Proofs.YtalfeggddfpgeaaDoor
