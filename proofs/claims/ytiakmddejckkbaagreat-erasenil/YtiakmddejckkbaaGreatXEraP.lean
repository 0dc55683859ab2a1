/- From the reading of an argument to what lies in memory: what was told. -/
import Derived.Test.YtiakmddejckkbaaGreatXEraO
import Derived.ProofKit
import Derived.OpenShut
import Derived.Deep.Slices
import Derived.Deep.Strs
namespace Go.Proofs.YtiakmddejckkbaaGreat
open Go.ChangeShapes Go.WideShapes Go.ChangeAt Go.RowKit Go.Deep

theorem cells_V : Tryz.prog.cellsOf 99 = 3 := by kernel_rfl
theorem cells_I : Tryz.prog.cellsOf 3 = 1 := by kernel_rfl
theorem cells_S : Tryz.prog.cellsOf 9 = 1 := by kernel_rfl
theorem cells_O : Tryz.prog.cellsOf 120 = 4 := by kernel_rfl

section
variable {H : Type} {enc : TypeId × Value → H} {W : World} {base : Nat} {spare : Nat → Bool} {held : Bool}

set_option maxRecDepth 100000 in
theorem val_of_trod {n : Nat} {cs : List Value} {x : DataW H × List MemPlace} (h : DataW.trod enc Tryz.prog W base spare held n 99 cs = some x) :
    ∃ e : Int × Int × ByteArray, cs = [.int .i64 e.1, .int .i64 e.2.1, .string e.2.2] := by
  obtain ⟨y0, y1, y2, m, _, hl, h0, h1, h2⟩ := trod_struct3 Tryz.underlying99 h
  rw [cells_V] at hl
  match cs, hl with
  | [c0, c1, c2], _ =>
    simp only [cells_I, cells_S] at h0 h1 h2
    obtain ⟨t, e0, _, _⟩ := DataW.trod_int Tryz.underlying3 h0
    obtain ⟨k, e1, _, _⟩ := DataW.trod_int Tryz.underlying3 h1
    obtain ⟨s, e2, _, _⟩ := DataW.trod_string Tryz.underlying9 h2
    simp at e0 e1 e2
    subst e0 e1 e2
    exact ⟨(t, k, s), rfl⟩
theorem trod_two {t : TypeId} {f0 f1 : Field} {fuel : Nat} {cs : List Value} {x : DataW H × List MemPlace} (ht : Tryz.prog.underlying t = some (.struct #[f0, f1])) (h : DataW.trod enc Tryz.prog W base spare held fuel t cs = some x) :
    ∃ y0 y1 n, x = (.agg [y0.1, y1.1], y0.2 ++ y1.2) ∧ cs.length = Tryz.prog.cellsOf t ∧ DataW.trod enc Tryz.prog W base spare held n f0.type ((cs.drop f0.offset).take (Tryz.prog.cellsOf f0.type)) = some y0 ∧
      DataW.trod enc Tryz.prog W base spare held n f1.type ((cs.drop f1.offset).take (Tryz.prog.cellsOf f1.type)) = some y1 := by
  obtain ⟨xs, n, _, rfl, hl, hlen, hf⟩ := DataW.trod_struct ht h
  match xs, hlen with
  | [y0, y1], _ => exact ⟨y0, y1, n, by simp, hl, by simpa using hf 0 f0 rfl, by simpa using hf 1 f1 rfl⟩
set_option maxRecDepth 100000 in
theorem told_of_trod {n : Nat} {cs : List Value} {x : DataW H × List MemPlace} (h : DataW.trod enc Tryz.prog W base spare held n 120 cs = some x) :
    ∃ o : Int × Int × Int × ByteArray, cs = [.int .i64 o.1, .int .i64 o.2.1, .int .i64 o.2.2.1, .string o.2.2.2] := by
  obtain ⟨y0, y1, m, rfl, hl, h0, h1⟩ := trod_two Tryz.underlying120 h
  rw [cells_O] at hl
  match cs, hl with
  | [c0, c1, c2, c3], _ =>
    simp only [cells_I, cells_V] at h0 h1
    obtain ⟨c, e0, _, _⟩ := DataW.trod_int Tryz.underlying3 h0
    obtain ⟨e, e1⟩ := val_of_trod h1
    simp at e0 e1
    obtain ⟨q1, q2, q3⟩ := e1
    subst e0 q1 q2 q3
    exact ⟨(c, e), rfl⟩
set_option maxRecDepth 100000 in
theorem outsIn_of_trod {a0 : Option Addr} {len0 cap0 : Nat} {d : DataW H} {p : List MemPlace} (h : DataW.Trod enc Tryz.prog W base (fun _ => true) held 48 (.slice a0 len0 cap0) d p) : OutsIn W a0 len0 := by
  obtain ⟨fuel, hf⟩ := h
  rcases open_slice Tryz.underlying48 hf with ⟨hcs, _⟩ | ⟨a, len, cap, m, n, D, Pl, hcs, hb, hl, hm, hmm, _, hel⟩
  · simp [Value.cells] at hcs
    obtain ⟨rfl, rfl, rfl⟩ := hcs
    exact fun i hi => absurd hi (Nat.not_lt_zero _)
  · simp [Value.cells] at hcs
    obtain ⟨rfl, rfl, rfl⟩ := hcs
    have hlm : len0 ≤ m := by rw [hmm]; simp; omega
    rw [cells_O] at hel
    intro i hi
    have each : ∀ i, i < len0 → ∃ o : Int × Int × Int × ByteArray, W.cell? (a.add (i * 4)) = some (.int .i64 o.1) ∧ W.cell? ((a.add (i * 4)).add 1) = some (.int .i64 o.2.1) ∧ W.cell? ((a.add (i * 4)).add 2) = some (.int .i64 o.2.2.1) ∧ W.cell? ((a.add (i * 4)).add 3) = some (.string o.2.2.2) := fun i hi => by
      obtain ⟨cs', h1, h2⟩ := hel i (by omega)
      obtain ⟨o, rfl⟩ := told_of_trod h2
      obtain ⟨_, _, hc⟩ := World.cells?_some h1
      refine ⟨o, ?_, ?_, ?_, ?_⟩
      · simpa [Addr.add] using hc 0 (by omega)
      · simpa using hc 1 (by omega)
      · simpa using hc 2 (by omega)
      · simpa using hc 3 (by omega)
    obtain ⟨o, c1, c2, c3, c4⟩ := each i hi
    obtain ⟨o0, c0, _⟩ := each 0 (by omega)
    obtain ⟨b, off, spot⟩ := a
    have hspot : spot = none := by simpa [Addr.add] using World.cell?_spot c0
    subst hspot
    simp only [add_plain] at c1 c2 c3 c4
    exact ⟨b, off, o.1, o.2.1, o.2.2.1, o.2.2.2, rfl, by simpa using c1, by simpa using c2, by simpa using c3, by simpa using c4⟩
end

theorem eraseNil_walk (l : Int) (ao : Option Addr) (n cap : Nat) {w : World} (hc : OutsIn w ao n) (_ : World) : Calls Tryz.prog 5 #[.int .i64 l, .slice ao n cap] w fun e w' => e = .returned (.bool true) ∧ Below w.heap.size w w' := eraseNil_any l ao n cap hc

end Go.Proofs.YtiakmddejckkbaaGreat
