/- Lists of rows in memory: what lies there, slices.Clone of a row, and what tells a row's bytes. -/
import Derived.Test.YtcnbbmgclphfdaaDoorRwSpec
import Derived.Test.YtcnbbmgclphfdaaDoorCatV
import Derived.Test.YtcnbbmgclphfdaaDoorEnc
import Derived.Test.YtcnbbmgclphfdaaDoorCore2
import Derived.Lib.SliceRun
namespace Go.Proofs.YtcnbbmgclphfdaaDoor
open Go.RowKit Go.Sort

/-- v is a slice of rows and holds L. -/
def LiesR (w : World) (v : Value) (L : List Row) : Prop :=
  ∃ ao cap, v = .slice ao L.length cap ∧ ((ao = none → cap = 0) ∧ L.length ≤ cap) ∧ ∀ i (h : i < L.length), ∃ b off r, ao = some ⟨b, off, none⟩ ∧ w.cell? ⟨b, off + i, none⟩ = some r ∧ Lies w r L[i]
theorem LiesR.keep {w w' : World} {v : Value} {L : List Row} (h : LiesR w v L) (k : Below w.heap.size w w') : LiesR w' v L := by
  obtain ⟨ao, cap, rfl, hn, hc⟩ := h
  refine ⟨ao, cap, rfl, hn, fun i hi => ?_⟩
  obtain ⟨b, off, r, h0, h1, h2⟩ := hc i hi
  exact ⟨b, off, r, h0, cell_keep h1 k, h2.keep k⟩
theorem lieR_at {w w' : World} {ao : Option Addr} {L : List Row} (hc : ∀ i (h : i < L.length), ∃ b off r, ao = some ⟨b, off, none⟩ ∧ w.cell? ⟨b, off + i, none⟩ = some r ∧ Lies w r L[i]) (k : Below w.heap.size w w') {i : Nat} (h : i < L.length) :
    ∃ b off r, ao = some ⟨b, off, none⟩ ∧ w'.cell? ⟨b, off + i, none⟩ = some r ∧ Lies w' r L[i] := by
  obtain ⟨b, off, r, h0, h1, h2⟩ := hc i h
  exact ⟨b, off, r, h0, cell_keep h1 k, h2.keep k⟩
/-- A row that lies somewhere, as its cell. -/
theorem Lies.slice {w : World} {v : Value} {l : List Ent} (h : Lies w v l) : v.oneCell' = true := by
  obtain ⟨ao, cap, rfl, _⟩ := h
  rfl
theorem Lies.form {w : World} {v : Value} {l : List Ent} (h : Lies w v l) : ∃ a c, v = .slice a l.length c := by
  obtain ⟨ao, cap, rfl, _⟩ := h
  exact ⟨_, _, rfl⟩
/-- Rows of values, one by one, that lie in memory. -/
def AllLie (w : World) (xs : List Value) (L : List Row) : Prop := xs.length = L.length ∧ ∀ i (h : i < xs.length) (h' : i < L.length), Lies w xs[i] L[i]
theorem AllLie.keep {w w' : World} {xs : List Value} {L : List Row} (h : AllLie w xs L) (k : Below w.heap.size w w') : AllLie w' xs L :=
  ⟨h.1, fun i h1 h2 => (h.2 i h1 h2).keep k⟩
theorem AllLie.nil (w : World) : AllLie w [] [] := ⟨rfl, fun i h => absurd h (by simp)⟩
theorem AllLie.snoc {w : World} {xs : List Value} {L : List Row} {x : Value} {r : Row} (h : AllLie w xs L) (hx : Lies w x r) : AllLie w (xs ++ [x]) (L ++ [r]) := by
  refine ⟨by simp [h.1], fun i h1 h2 => ?_⟩
  by_cases c : i < xs.length
  · have c' : i < L.length := by rw [← h.1]; exact c
    rw [List.getElem_append_left c, List.getElem_append_left c']
    exact h.2 i c c'
  · have e : i = xs.length := by simp at h1; omega
    subst e
    have e2 : (L ++ [r])[xs.length]'h2 = r := by
      have := h.1
      simp [this]
    rw [e2]
    simpa using hx
theorem AllLie.one {w : World} {xs : List Value} {L : List Row} (h : AllLie w xs L) : ∀ y ∈ xs, y.oneCell' = true := by
  intro y hy
  obtain ⟨i, hi, rfl⟩ := List.mem_iff_getElem.1 hy
  exact (h.2 i hi (by rw [← h.1]; exact hi)).slice
theorem LiesC.rows {w : World} {v : Value} {xs : List Value} {L : List Row} (h : LiesC w v xs) (ha : AllLie w xs L) : LiesR w v L := by
  obtain ⟨ao, cap, h0, hn, hc⟩ := h
  refine ⟨ao, cap, by rw [h0, ha.1], by rw [← ha.1]; exact hn, fun i hi => ?_⟩
  have hi' : i < xs.length := by rw [ha.1]; exact hi
  obtain ⟨b, off, h1, h2⟩ := hc i hi'
  exact ⟨b, off, xs[i], h1, h2, ha.2 i hi' hi⟩
theorem LiesR.cells {w : World} {v : Value} {L : List Row} (h : LiesR w v L) : ∃ xs, LiesC w v xs ∧ AllLie w xs L := by
  obtain ⟨ao, cap, h0, hn, hc⟩ := h
  have hx : ∀ i : Nat, ∃ x : Value, ∀ h : i < L.length, ∃ b off, ao = some ⟨b, off, none⟩ ∧ w.cell? ⟨b, off + i, none⟩ = some x ∧ Lies w x L[i] := fun i => by
    by_cases h : i < L.length
    · obtain ⟨b, off, r, h1, h2, h3⟩ := hc i h
      exact ⟨r, fun _ => ⟨b, off, h1, h2, h3⟩⟩
    · exact ⟨.bool true, fun h' => absurd h' h⟩
  let E : Nat → Value := fun i => Classical.choose (hx i)
  have hE : ∀ i (h : i < L.length), ∃ b off, ao = some ⟨b, off, none⟩ ∧ w.cell? ⟨b, off + i, none⟩ = some (E i) ∧ Lies w (E i) L[i] := fun i h => Classical.choose_spec (hx i) h
  refine ⟨(List.range L.length).map E, ⟨ao, cap, by simpa using h0, by simpa using hn, fun i hi => ?_⟩, by simp, fun i h1 h2 => ?_⟩
  · obtain ⟨b, off, g1, g2, _⟩ := hE i (by simpa using hi)
    exact ⟨b, off, g1, by simpa using g2⟩
  · obtain ⟨_, _, _, _, g3⟩ := hE i h2
    simpa using g3
theorem info_R : (Tryd.prog.info? 32).map (fun i => (i.zero, i.size, i.bytes)) = some (some (.slice none 0 0), 1, 24) := by kernel_rfl

end Go.Proofs.YtcnbbmgclphfdaaDoor
