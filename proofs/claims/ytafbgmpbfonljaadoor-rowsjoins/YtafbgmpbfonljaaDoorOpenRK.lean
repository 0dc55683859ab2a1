/- From the reading of an argument to what lies in memory: lists of rows that have room for what they hold. -/
import Derived.Test.YtafbgmpbfonljaaDoorOpenRR
import Derived.Test.YtafbgmpbfonljaaDoorRwMatch2
namespace Go.Proofs.YtafbgmpbfonljaaDoor
open Go.ChangeShapes Go.WideShapes Go.ChangeAt Go.RowKit Go.Deep

section
variable {H : Type} {enc : TypeId × Value → H} {W : World} {base : Nat} {held : Bool}

theorem room_of_trod {fuel : Nat} {cs : List Value} {x : DataW H × List MemPlace} (hf : DataW.trod enc Tryd.prog W base (fun _ => true) held fuel 40 cs = some x) :
    ∃ ao m cap, cs = [.slice ao m cap] ∧ m ≤ cap := by
  rcases open_slice Tryd.underlying40 hf with ⟨hcs, _⟩ | ⟨a, len, cap, m, n, D, Pl, hcs, hb, hl, hm, hmm, _, hel⟩
  · exact ⟨none, 0, 0, hcs, Nat.le_refl _⟩
  · exact ⟨some a, len, cap, hcs, hl⟩
theorem rowsK_of_trod {a0 : Option Addr} {len0 cap0 : Nat} {d : DataW H} {p : List MemPlace} (h : DataW.Trod enc Tryd.prog W base (fun _ => true) held 22 (.slice a0 len0 cap0) d p) :
    ∃ L : List Row, LiesR W (.slice a0 len0 cap0) L ∧ (∀ r ∈ L, ∀ e ∈ r, inR e.1 ∧ inR e.2.1) ∧ RoomyR W (.slice a0 len0 cap0) L.length := by
  obtain ⟨L, h1, h2⟩ := rows_of_trod h
  refine ⟨L, h1, h2, ?_⟩
  obtain ⟨_, _, he, _, _⟩ := h1
  simp only [Value.slice.injEq] at he
  obtain ⟨_, hlen, _⟩ := he
  intro i hi b off k c r hv hc
  simp only [Value.slice.injEq] at hv
  obtain ⟨rfl, rfl, rfl⟩ := hv
  obtain ⟨fuel, hf⟩ := h
  rcases open_slice Tryd.underlying22 hf with ⟨hcs, _⟩ | ⟨a, len, cap, m, n, D, Pl, hcs, hb, hl, hm, hmm, _, hel⟩
  · simp [Value.cells] at hcs
  · simp [Value.cells] at hcs
    obtain ⟨rfl, rfl, rfl⟩ := hcs
    rw [cells_R] at hel
    obtain ⟨cs', h3, h4⟩ := hel i (by rw [hmm]; simp; omega)
    obtain ⟨ao, m', cap', rfl, hle⟩ := room_of_trod h4
    obtain ⟨_, _, hcc⟩ := World.cells?_some h3
    have hc0 := hcc 0 (by omega)
    simp only [Nat.mul_one, List.getElem?_cons_zero, add_plain, Nat.add_zero] at hc0
    rw [hc] at hc0
    simp only [Option.some.injEq] at hc0
    exact ⟨ao, m', cap', hc0, hle⟩

end
end Go.Proofs.YtafbgmpbfonljaaDoor
