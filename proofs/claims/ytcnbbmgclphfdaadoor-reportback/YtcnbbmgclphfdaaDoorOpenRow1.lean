/- From the reading of an argument to what lies in memory: slices of values. -/
import Derived.Test.YtcnbbmgclphfdaaDoorOwnV
import Derived.ProofKit
import Derived.OpenShut
import Derived.Deep.Slices
import Derived.Deep.Strs
namespace Go.Proofs.YtcnbbmgclphfdaaDoor
open Go.ChangeShapes Go.WideShapes Go.ChangeAt Go.RowKit Go.Deep

theorem cells_V : Tryd.prog.cellsOf 28 = 3 := by kernel_rfl
theorem cells_I : Tryd.prog.cellsOf 3 = 1 := by kernel_rfl
theorem cells_S : Tryd.prog.cellsOf 9 = 1 := by kernel_rfl

section
variable {H : Type} {enc : TypeId × Value → H} {W : World} {base : Nat} {spare : Nat → Bool} {held : Bool}

set_option maxRecDepth 100000 in
theorem ent_of_trod {n : Nat} {cs : List Value} {x : DataW H × List MemPlace} (h : DataW.trod enc Tryd.prog W base spare held n 28 cs = some x) :
    ∃ e : Ent, cs = [.int .i64 e.1, .int .i64 e.2.1, .string e.2.2] ∧ inR e.1 ∧ inR e.2.1 := by
  obtain ⟨y0, y1, y2, m, _, hl, h0, h1, h2⟩ := trod_struct3 Tryd.underlying28 h
  rw [cells_V] at hl
  match cs, hl with
  | [c0, c1, c2], _ =>
    simp only [cells_I, cells_S] at h0 h1 h2
    obtain ⟨t, e0, _, w0⟩ := DataW.trod_int Tryd.underlying3 h0
    obtain ⟨k, e1, _, w1⟩ := DataW.trod_int Tryd.underlying3 h1
    obtain ⟨s, e2, _, _⟩ := DataW.trod_string Tryd.underlying9 h2
    simp at e0 e1 e2
    subst e0 e1 e2
    exact ⟨(t, k, s), rfl, inR_wf w0, inR_wf w1⟩

set_option maxRecDepth 100000 in
theorem lies_of_trod {a0 : Option Addr} {len0 cap0 : Nat} {d : DataW H} {p : List MemPlace} (h : DataW.Trod enc Tryd.prog W base (fun _ => true) held 32 (.slice a0 len0 cap0) d p) :
    ∃ l : List Ent, Lies W (.slice a0 len0 cap0) l ∧ l.length ≤ maxLen ∧ ∀ e ∈ l, inR e.1 ∧ inR e.2.1 := by
  obtain ⟨fuel, hf⟩ := h
  rcases open_slice Tryd.underlying32 hf with ⟨hcs, _⟩ | ⟨a, len, cap, m, n, D, Pl, hcs, hb, hl, hm, hmm, _, hel⟩
  · simp [Value.cells] at hcs
    obtain ⟨rfl, rfl, rfl⟩ := hcs
    exact ⟨[], ⟨none, 0, rfl, fun i hi => absurd hi (by simp)⟩, by simp, fun e he => by cases he⟩
  · simp [Value.cells] at hcs
    obtain ⟨rfl, rfl, rfl⟩ := hcs
    have hlm : len0 ≤ m := by rw [hmm]; simp; omega
    rw [cells_V] at hel
    obtain ⟨E, hE⟩ := choose_lt (α := Ent) (p := fun i e => W.cell? (a.add (i * 3)) = some (.int .i64 e.1) ∧ W.cell? ((a.add (i * 3)).add 1) = some (.int .i64 e.2.1) ∧ W.cell? ((a.add (i * 3)).add 2) = some (.string e.2.2) ∧ inR e.1 ∧ inR e.2.1) (n := len0) (fun i hi => by
      obtain ⟨cs', h1, h2⟩ := hel i (by omega)
      obtain ⟨e, rfl, i1, i2⟩ := ent_of_trod h2
      obtain ⟨_, _, hc⟩ := World.cells?_some h1
      refine ⟨e, ?_, ?_, ?_, i1, i2⟩
      · simpa [Addr.add] using hc 0 (by omega)
      · simpa using hc 1 (by omega)
      · simpa using hc 2 (by omega))
    refine ⟨(List.range len0).map E, ?_, by simp; omega, ?_⟩
    · refine ⟨some a, cap0, by simp, fun i hi => ?_⟩
      have hi' : i < len0 := by simpa using hi
      obtain ⟨c1, c2, c3, _⟩ := hE i hi'
      obtain ⟨c0, _⟩ := hE 0 (by omega)
      obtain ⟨b, off, spot⟩ := a
      have hspot : spot = none := by simpa [Addr.add] using World.cell?_spot c0
      subst hspot
      simp only [add_plain] at c1 c2 c3
      refine ⟨b, off, rfl, ?_, ?_, ?_⟩
      · simpa using c1
      · simpa using c2
      · simpa using c3
    · intro e he
      simp only [List.mem_map, List.mem_range] at he
      obtain ⟨i, hi, rfl⟩ := he
      exact (hE i hi).2.2.2

end
end Go.Proofs.YtcnbbmgclphfdaaDoor
