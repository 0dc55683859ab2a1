/- For the walks of RowsOrder and RowsSorts: lists of rows by their places. -/
import Derived.Test.YtalfeggddfpgeaaDoorRwOrderP
import Derived.Test.YtalfeggddfpgeaaDoorRwAlive
namespace Go.Proofs.YtalfeggddfpgeaaDoor
open Go.RowKit Go.Sort

theorem few_single (A : List Row) : fewR [A] = okL A := by simp [fewR]
theorem few_pair (A B : List Row) : fewR [A, B] = (okL A && okL B) := by simp [fewR]
theorem LiesLL.single {w : World} {v : Value} {A : List Row} (hA : LiesR w v A) : LiesLL (w.alloc (.cells #[v] 22)) (.slice (some ⟨w.heap.size, 0, none⟩) 1 1) [A] := by
  have hk : Below w.heap.size w (w.alloc (.cells #[v] 22)) := (Below.refl _ _).alloc (Nat.le_refl _) _
  refine ⟨_, 1, rfl, fun i hi => ⟨w.heap.size, 0, ?_⟩⟩
  match i, hi with
  | 0, _ => exact ⟨v, rfl, by simp [go_sem], hA.keep hk⟩
/-- Rows by their places, from a first world on. -/
def Rests (w : World) (b off n : Nat) (L : List Row) : Prop := ∀ w', Below w.heap.size w w' → ∀ k, k < n → ∃ x, w'.cell? ⟨b, off + k, none⟩ = some x ∧ Lies w' x (L.getD k [])
theorem LiesR.acc {w : World} {v : Value} {L : List Row} {n i : Nat} (h : LiesR w v L) (hn : L.length = n) (hi : i < n) : ∃ b off c, v = .slice (some ⟨b, off, none⟩) n c ∧ Rests w b off n L := by
  obtain ⟨ao, c, rfl, _, hc⟩ := h
  obtain ⟨b, off, r, rfl, _, _⟩ := hc i (by omega)
  refine ⟨b, off, c, by rw [hn], fun w' hw k hk => ?_⟩
  obtain ⟨b', off', x, e, c1, d1⟩ := hc k (by omega)
  simp only [Option.some.injEq, Addr.mk.injEq] at e
  obtain ⟨rfl, rfl, _⟩ := e
  refine ⟨x, cell_keep c1 hw, ?_⟩
  have : L.getD k [] = L[k]'(by omega) := by simp [List.getD, show k < L.length by omega]
  rw [this]
  exact d1.keep hw
theorem nilB (w : World) : LiesB w (.slice none 0 0) [] := ⟨none, 0, rfl, ⟨fun _ => rfl, Nat.le_refl _⟩, fun i h => absurd h (by simp)⟩
theorem getD_all {L : List Row} {p : Row → Prop} (h : ∀ r ∈ L, p r) {k : Nat} (hk : k < L.length) : p (L.getD k []) := by
  have : L.getD k [] = L[k] := by simp [List.getD, hk]
  rw [this]
  exact h _ (List.getElem_mem hk)
theorem cntR_takeD {M : List Row} {x : Row} {k : Nat} (h : k < M.length) : cntR (M.take (k + 1)) x = cntR (M.take k) x + (if (ordK (M.getD k []) x [] == 0) = true then 1 else 0) := by
  have : M.getD k [] = M[k] := by simp [List.getD, h]
  rw [this]
  exact cntR_take h
def trues (k : Nat) : List Value := (List.replicate k (.bool true)) ++ List.replicate (40 - k) (.bool false)
theorem trues_length {k : Nat} (h : k ≤ 40) : (trues k).length = 40 := by simp [trues]; omega
theorem trues_set {k : Nat} (h : k < 40) : (trues k).set k (.bool true) = trues (k + 1) := by
  apply List.ext_getElem (by simp [trues]; omega)
  intro i h1 h2
  simp only [trues, List.getElem_set, List.getElem_append, List.getElem_replicate, List.length_replicate]
  by_cases c : k = i
  · subst c; simp
  · rw [if_neg c]
    by_cases d : i < k
    · simp [d, show i < k + 1 by omega]
    · simp [d, show ¬ i < k + 1 by omega]
theorem trues_all : trues 40 = (List.replicate 40 true).map .bool := by simp [trues]
theorem trues_zero : trues 0 = List.replicate 40 (.bool false) := by simp [trues]

end Go.Proofs.YtalfeggddfpgeaaDoor
