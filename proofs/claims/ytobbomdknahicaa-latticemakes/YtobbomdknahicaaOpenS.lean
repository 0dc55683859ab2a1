/- From the reading of an argument to what lies in memory: slices of texts, slices of pairs of texts. -/
import Derived.Test.YtobbomdknahicaaCore
import Derived.ProofKit
import Derived.OpenShut
import Derived.Deep.Slices
import Derived.Deep.Strs
namespace Go.Proofs.Ytobbomdknahicaa
open Go.ChangeShapes Go.WideShapes Go.ChangeAt Go.RowKit Go.Deep

theorem cells_S : Try.prog.cellsOf 9 = 1 := by kernel_rfl
theorem cells_P : Try.prog.cellsOf 47 = 2 := by kernel_rfl

section
variable {H : Type} {enc : TypeId × Value → H} {W : World} {base : Nat} {spare : Nat → Bool} {held : Bool}

theorem str_of_trod {n : Nat} {cs : List Value} {x : DataW H × List MemPlace} (h : DataW.trod enc Try.prog W base spare held n 9 cs = some x) : ∃ s : ByteArray, cs = [.string s] := by
  obtain ⟨s, e, _, _⟩ := DataW.trod_string Try.underlying9 h
  exact ⟨s, e⟩
theorem pair_of_trod {n : Nat} {cs : List Value} {x : DataW H × List MemPlace} (h : DataW.trod enc Try.prog W base spare held n 47 cs = some x) :
    ∃ e : ByteArray × ByteArray, cs = [.string e.1, .string e.2] := by
  obtain ⟨y0, y1, m, _, hl, h0, h1⟩ := trod_struct2 Try.underlying47 h
  rw [cells_P] at hl
  match cs, hl with
  | [c0, c1], _ =>
    simp only [cells_S] at h0 h1
    obtain ⟨s, e0, _, _⟩ := DataW.trod_string Try.underlying9 h0
    obtain ⟨z, e1, _, _⟩ := DataW.trod_string Try.underlying9 h1
    simp at e0 e1
    subst e0 e1
    exact ⟨(s, z), rfl⟩

theorem liesS_of_trod {a0 : Option Addr} {len0 cap0 : Nat} {d : DataW H} {p : List MemPlace} (h : DataW.Trod enc Try.prog W base (fun _ => true) held 22 (.slice a0 len0 cap0) d p) :
    ∃ l : List ByteArray, LiesS W (.slice a0 len0 cap0) l ∧ l.length ≤ maxLen := by
  obtain ⟨fuel, hf⟩ := h
  rcases open_slice Try.underlying22 hf with ⟨hcs, _⟩ | ⟨a, len, cap, m, n, D, Pl, hcs, hb, hl, hm, hmm, _, hel⟩
  · simp [Value.cells] at hcs
    obtain ⟨rfl, rfl, rfl⟩ := hcs
    exact ⟨[], ⟨none, 0, rfl, ⟨fun _ => rfl, Nat.le_refl _⟩, fun i hi => absurd hi (by simp)⟩, by simp⟩
  · simp [Value.cells] at hcs
    obtain ⟨rfl, rfl, rfl⟩ := hcs
    have hlm : len0 ≤ m := by rw [hmm]; simp; omega
    rw [cells_S] at hel
    obtain ⟨E, hE⟩ := choose_lt (α := ByteArray) (p := fun i e => W.cell? (a.add i) = some (.string e)) (n := len0) (fun i hi => by
      obtain ⟨cs', h1, h2⟩ := hel i (by omega)
      obtain ⟨e, rfl⟩ := str_of_trod h2
      obtain ⟨_, _, hc⟩ := World.cells?_some h1
      exact ⟨e, by simpa [Addr.add] using hc 0 (by omega)⟩)
    refine ⟨(List.range len0).map E, ⟨some a, cap0, by simp, ⟨nofun, by simpa using hl⟩, fun i hi => ?_⟩, by simp; omega⟩
    have hi' : i < len0 := by simpa using hi
    have c1 := hE i hi'
    have c0 := hE 0 (by omega)
    obtain ⟨b, off, spot⟩ := a
    have hspot : spot = none := by simpa [Addr.add] using World.cell?_spot c0
    subst hspot
    simp only [add_plain] at c1
    exact ⟨b, off, rfl, by simpa using c1⟩

theorem liesP_of_trod {a0 : Option Addr} {len0 cap0 : Nat} {d : DataW H} {p : List MemPlace} (h : DataW.Trod enc Try.prog W base (fun _ => true) held 23 (.slice a0 len0 cap0) d p) :
    ∃ l : List (ByteArray × ByteArray), LiesP W (.slice a0 len0 cap0) l ∧ l.length ≤ maxLen := by
  obtain ⟨fuel, hf⟩ := h
  rcases open_slice Try.underlying23 hf with ⟨hcs, _⟩ | ⟨a, len, cap, m, n, D, Pl, hcs, hb, hl, hm, hmm, _, hel⟩
  · simp [Value.cells] at hcs
    obtain ⟨rfl, rfl, rfl⟩ := hcs
    exact ⟨[], ⟨none, 0, rfl, ⟨fun _ => rfl, Nat.le_refl _⟩, fun i hi => absurd hi (by simp)⟩, by simp⟩
  · simp [Value.cells] at hcs
    obtain ⟨rfl, rfl, rfl⟩ := hcs
    have hlm : len0 ≤ m := by rw [hmm]; simp; omega
    rw [cells_P] at hel
    obtain ⟨E, hE⟩ := choose_lt (α := ByteArray × ByteArray) (p := fun i e => W.cell? (a.add (i * 2)) = some (.string e.1) ∧ W.cell? ((a.add (i * 2)).add 1) = some (.string e.2)) (n := len0) (fun i hi => by
      obtain ⟨cs', h1, h2⟩ := hel i (by omega)
      obtain ⟨e, rfl⟩ := pair_of_trod h2
      obtain ⟨_, _, hc⟩ := World.cells?_some h1
      refine ⟨e, ?_, ?_⟩
      · simpa [Addr.add] using hc 0 (by omega)
      · simpa using hc 1 (by omega))
    refine ⟨(List.range len0).map E, ⟨some a, cap0, by simp, ⟨nofun, by simpa using hl⟩, fun i hi => ?_⟩, by simp; omega⟩
    have hi' : i < len0 := by simpa using hi
    obtain ⟨c1, c2⟩ := hE i hi'
    obtain ⟨c0, _⟩ := hE 0 (by omega)
    obtain ⟨b, off, spot⟩ := a
    have hspot : spot = none := by simpa [Addr.add] using World.cell?_spot c0
    subst hspot
    simp only [add_plain] at c1 c2
    exact ⟨b, off, rfl, by simpa using c1, by simpa using c2⟩

end
end Go.Proofs.Ytobbomdknahicaa
