/- From the reading of an argument to what lies in memory: lists of rows, names with levels, what was told; and how long the names are at the most. -/
import Derived.Test.YtcnbbmgclphfdaaDoorRows
import Derived.Test.YtcnbbmgclphfdaaDoorRpOuts
import Derived.ProofKit
import Derived.OpenShut
import Derived.Deep.Slices
import Derived.Deep.Strs
namespace Go.Proofs.YtcnbbmgclphfdaaDoor
open Go.ChangeShapes Go.WideShapes Go.ChangeAt Go.RowKit Go.Deep

theorem cells_V : Tryd.prog.cellsOf 28 = 3 := by kernel_rfl
theorem cells_I : Tryd.prog.cellsOf 3 = 1 := by kernel_rfl
theorem cells_S : Tryd.prog.cellsOf 9 = 1 := by kernel_rfl
theorem cells_R : Tryd.prog.cellsOf 32 = 1 := by kernel_rfl
theorem cells_N : Tryd.prog.cellsOf 68 = 2 := by kernel_rfl
theorem cells_O : Tryd.prog.cellsOf 30 = 4 := by kernel_rfl

theorem bulk_part {H : Type} {d : DataW H} {l : List (DataW H)} (h : d ∈ l) : Rows.uptoBulk d ≤ Rows.uptoBulkAll l := by
  induction l with
  | nil => cases h
  | cons x r ih =>
    simp only [Rows.uptoBulkAll]
    cases List.mem_cons.1 h with
    | inl e => subst e; omega
    | inr e => have := ih e; omega

section
variable {H : Type} {enc : TypeId × Value → H} {W : World} {base : Nat} {spare : Nat → Bool} {held : Bool}

set_option maxRecDepth 100000 in
theorem ent_of_trod {n : Nat} {cs : List Value} {x : DataW H × List MemPlace} (h : DataW.trod enc Tryd.prog W base spare held n 28 cs = some x) :
    ∃ e : Ent, cs = [.int .i64 e.1, .int .i64 e.2.1, .string e.2.2] ∧ inR e.1 ∧ inR e.2.1 := by
  obtain ⟨y0, y1, y2, m, _, hl, h0, h1, h2⟩ := trod_struct3 Tryd.underlying28 h
  rw [cells_V] at hl
  match cs, hl with
  | [c0, c1, c2], _ =>
    simp only [cells_I, cells_S] at h0 h1 h2
    obtain ⟨t, e0, _, w0⟩ := DataW.trod_int Tryd.underlying3 h0
    obtain ⟨k, e1, _, w1⟩ := DataW.trod_int Tryd.underlying3 h1
    obtain ⟨s, e2, _, _⟩ := DataW.trod_string Tryd.underlying9 h2
    simp at e0 e1 e2
    subst e0 e1 e2
    exact ⟨(t, k, s), rfl, inR_wf w0, inR_wf w1⟩

set_option maxRecDepth 100000 in
theorem row_of_trod {fuel : Nat} {cs : List Value} {x : DataW H × List MemPlace} (hf : DataW.trod enc Tryd.prog W base (fun _ => true) held fuel 32 cs = some x) :
    ∃ (v : Value) (l : List Ent), cs = [v] ∧ Lies W v l ∧ ∀ e ∈ l, inR e.1 ∧ inR e.2.1 := by
  rcases open_slice Tryd.underlying32 hf with ⟨hcs, _⟩ | ⟨a, len, cap, m, n, D, Pl, hcs, hb, hl, hm, hmm, _, hel⟩
  · exact ⟨_, [], hcs, ⟨none, 0, rfl, fun i hi => absurd hi (by simp)⟩, fun e he => by cases he⟩
  · have hlm : len ≤ m := by rw [hmm]; simp; omega
    rw [cells_V] at hel
    obtain ⟨E, hE⟩ := choose_lt (α := Ent) (p := fun i e => W.cell? (a.add (i * 3)) = some (.int .i64 e.1) ∧ W.cell? ((a.add (i * 3)).add 1) = some (.int .i64 e.2.1) ∧ W.cell? ((a.add (i * 3)).add 2) = some (.string e.2.2) ∧ inR e.1 ∧ inR e.2.1) (n := len) (fun i hi => by
      obtain ⟨cs', h1, h2⟩ := hel i (by omega)
      obtain ⟨e, rfl, i1, i2⟩ := ent_of_trod h2
      obtain ⟨_, _, hc⟩ := World.cells?_some h1
      refine ⟨e, ?_, ?_, ?_, i1, i2⟩
      · simpa [Addr.add] using hc 0 (by omega)
      · simpa using hc 1 (by omega)
      · simpa using hc 2 (by omega))
    refine ⟨_, (List.range len).map E, hcs, ?_, ?_⟩
    · refine ⟨some a, cap, by simp, fun i hi => ?_⟩
      have hi' : i < len := by simpa using hi
      obtain ⟨c1, c2, c3, _⟩ := hE i hi'
      obtain ⟨c0, _⟩ := hE 0 (by omega)
      obtain ⟨b, off, spot⟩ := a
      have hspot : spot = none := by simpa [Addr.add] using World.cell?_spot c0
      subst hspot
      simp only [add_plain] at c1 c2 c3
      refine ⟨b, off, rfl, ?_, ?_, ?_⟩
      · simpa using c1
      · simpa using c2
      · simpa using c3
    · intro e he
      simp only [List.mem_map, List.mem_range] at he
      obtain ⟨i, hi, rfl⟩ := he
      exact (hE i hi).2.2.2

set_option maxRecDepth 100000 in
theorem rows_of_trod {a0 : Option Addr} {len0 cap0 : Nat} {d : DataW H} {p : List MemPlace} (h : DataW.Trod enc Tryd.prog W base (fun _ => true) held 22 (.slice a0 len0 cap0) d p) :
    ∃ L : List Row, LiesR W (.slice a0 len0 cap0) L ∧ ∀ r ∈ L, ∀ e ∈ r, inR e.1 ∧ inR e.2.1 := by
  obtain ⟨fuel, hf⟩ := h
  rcases open_slice Tryd.underlying22 hf with ⟨hcs, _⟩ | ⟨a, len, cap, m, n, D, Pl, hcs, hb, hl, hm, hmm, _, hel⟩
  · simp [Value.cells] at hcs
    obtain ⟨rfl, rfl, rfl⟩ := hcs
    exact ⟨[], ⟨none, 0, rfl, ⟨fun _ => rfl, Nat.le_refl _⟩, fun i hi => absurd hi (by simp)⟩, fun r hr => by cases hr⟩
  · simp [Value.cells] at hcs
    obtain ⟨rfl, rfl, rfl⟩ := hcs
    have hlm : len0 ≤ m := by rw [hmm]; simp; omega
    rw [cells_R] at hel
    obtain ⟨E, hE⟩ := choose_lt (α := Row) (p := fun i r => ∃ v, W.cell? (a.add i) = some v ∧ Lies W v r ∧ ∀ e ∈ r, inR e.1 ∧ inR e.2.1) (n := len0) (fun i hi => by
      obtain ⟨cs', h1, h2⟩ := hel i (by omega)
      obtain ⟨v, l, rfl, h3, h4⟩ := row_of_trod h2
      obtain ⟨_, _, hc⟩ := World.cells?_some h1
      exact ⟨l, v, by simpa [Addr.add] using hc 0 (by omega), h3, h4⟩)
    refine ⟨(List.range len0).map E, ⟨some a, cap0, by simp, ⟨nofun, by simpa using hl⟩, fun i hi => ?_⟩, ?_⟩
    · have hi' : i < len0 := by simpa using hi
      obtain ⟨v, c1, c2, _⟩ := hE i hi'
      obtain ⟨v0, c0, _⟩ := hE 0 (by omega)
      obtain ⟨b, off, spot⟩ := a
      have hspot : spot = none := by simpa [Addr.add] using World.cell?_spot c0
      subst hspot
      simp only [add_plain] at c1
      exact ⟨b, off, v, rfl, by simpa using c1, by simpa using c2⟩
    · intro r hr
      simp only [List.mem_map, List.mem_range] at hr
      obtain ⟨i, hi, rfl⟩ := hr
      obtain ⟨_, _, _, h⟩ := hE i hi
      exact h


theorem trod_struct2 {t : TypeId} {f0 f1 : Field} {fuel : Nat} {cs : List Value} {x : DataW H × List MemPlace} (ht : Tryd.prog.underlying t = some (.struct #[f0, f1])) (h : DataW.trod enc Tryd.prog W base spare held fuel t cs = some x) :
    ∃ y0 y1 n, x = (.agg [y0.1, y1.1], y0.2 ++ y1.2) ∧ cs.length = Tryd.prog.cellsOf t ∧ DataW.trod enc Tryd.prog W base spare held n f0.type ((cs.drop f0.offset).take (Tryd.prog.cellsOf f0.type)) = some y0 ∧
      DataW.trod enc Tryd.prog W base spare held n f1.type ((cs.drop f1.offset).take (Tryd.prog.cellsOf f1.type)) = some y1 := by
  obtain ⟨xs, n, _, rfl, hl, hlen, hf⟩ := DataW.trod_struct ht h
  match xs, hlen with
  | [y0, y1], _ => exact ⟨y0, y1, n, by simp, hl, by simpa using hf 0 f0 rfl, by simpa using hf 1 f1 rfl⟩

set_option maxRecDepth 100000 in
theorem named_of_trod {n : Nat} {cs : List Value} {x : DataW H × List MemPlace} (h : DataW.trod enc Tryd.prog W base spare held n 68 cs = some x) :
    ∃ c : ByteArray × Int, cs = [.string c.1, .int .i64 c.2] ∧ c.1.size ≤ Rows.uptoBulk x.1 := by
  obtain ⟨y0, y1, m, rfl, hl, h0, h1⟩ := trod_struct2 Tryd.underlying68 h
  rw [cells_N] at hl
  match cs, hl with
  | [c0, c1], _ =>
    simp only [cells_I, cells_S] at h0 h1
    obtain ⟨s, e0, hy, _⟩ := DataW.trod_string Tryd.underlying9 h0
    obtain ⟨k, e1, _, _⟩ := DataW.trod_int Tryd.underlying3 h1
    simp at e0 e1
    subst e0 e1
    refine ⟨(s, k), rfl, ?_⟩
    rw [hy]
    simp [Rows.uptoBulk, Rows.uptoBulkAll]
    omega

set_option maxRecDepth 100000 in
theorem out_of_trod {n : Nat} {cs : List Value} {x : DataW H × List MemPlace} (h : DataW.trod enc Tryd.prog W base spare held n 30 cs = some x) :
    ∃ o : Int × Ent, cs = [.int .i64 o.1, .int .i64 o.2.1, .int .i64 o.2.2.1, .string o.2.2.2] ∧ inR o.2.2.1 := by
  obtain ⟨y0, y1, m, rfl, hl, h0, h1⟩ := trod_struct2 Tryd.underlying30 h
  rw [cells_O] at hl
  match cs, hl with
  | [c0, c1, c2, c3], _ =>
    simp only [cells_I, cells_V] at h0 h1
    obtain ⟨c, e0, _, _⟩ := DataW.trod_int Tryd.underlying3 h0
    obtain ⟨e, e1, _, hi⟩ := ent_of_trod h1
    simp at e0 e1
    obtain ⟨q1, q2, q3⟩ := e1
    subst e0 q1 q2 q3
    exact ⟨(c, e), rfl, hi⟩

set_option maxRecDepth 100000 in
theorem chans_of_trod {a0 : Option Addr} {len0 cap0 : Nat} {d : DataW H} {p : List MemPlace} (h : DataW.Trod enc Tryd.prog W base (fun _ => true) held 23 (.slice a0 len0 cap0) d p) :
    ∃ C : List (ByteArray × Int), LiesC2 W (.slice a0 len0 cap0) C ∧ ∀ c ∈ C, c.1.size ≤ Rows.uptoBulk d := by
  obtain ⟨fuel, hf⟩ := h
  rcases open_slice Tryd.underlying23 hf with ⟨hcs, _⟩ | ⟨a, len, cap, m, n, D, Pl, hcs, hb, hl, hm, hmm, hx, hel⟩
  · simp [Value.cells] at hcs
    obtain ⟨rfl, rfl, rfl⟩ := hcs
    exact ⟨[], ⟨none, 0, rfl, fun i hi => absurd hi (by simp)⟩, fun c hc => by cases hc⟩
  · simp [Value.cells] at hcs
    obtain ⟨rfl, rfl, rfl⟩ := hcs
    have hlm : len0 ≤ m := by rw [hmm]; simp; omega
    have hd : d = .slice ((List.range len0).map D) ((List.range (m - len0)).map fun j => D (len0 + j)) := congrArg Prod.fst hx
    rw [cells_N] at hel
    obtain ⟨E, hE⟩ := choose_lt (α := ByteArray × Int) (p := fun i c => W.cell? (a.add (i * 2)) = some (.string c.1) ∧ c.1.size ≤ Rows.uptoBulk (D i)) (n := len0) (fun i hi => by
      obtain ⟨cs', h1, h2⟩ := hel i (by omega)
      obtain ⟨c, rfl, h3⟩ := named_of_trod h2
      obtain ⟨_, _, hc⟩ := World.cells?_some h1
      exact ⟨c, by simpa [Addr.add] using hc 0 (by omega), h3⟩)
    refine ⟨(List.range len0).map E, ⟨some a, cap0, by simp, fun i hi => ?_⟩, ?_⟩
    · have hi' : i < len0 := by simpa using hi
      obtain ⟨c1, _⟩ := hE i hi'
      obtain ⟨c0, _⟩ := hE 0 (by omega)
      obtain ⟨b, off, spot⟩ := a
      have hspot : spot = none := by simpa [Addr.add] using World.cell?_spot c0
      subst hspot
      simp only [add_plain] at c1
      exact ⟨b, off, rfl, by simpa using c1⟩
    · intro c hc
      simp only [List.mem_map, List.mem_range] at hc
      obtain ⟨i, hi, rfl⟩ := hc
      have h1 := (hE i hi).2
      have h2 : Rows.uptoBulk (D i) ≤ Rows.uptoBulkAll ((List.range len0).map D) := bulk_part (List.mem_map.2 ⟨i, List.mem_range.2 hi, rfl⟩)
      rw [hd]
      simp only [Rows.uptoBulk]
      omega

set_option maxRecDepth 100000 in
theorem outs_of_trod {a0 : Option Addr} {len0 cap0 : Nat} {d : DataW H} {p : List MemPlace} (h : DataW.Trod enc Tryd.prog W base (fun _ => true) held 24 (.slice a0 len0 cap0) d p) :
    ∃ O : List (Int × Ent), LiesO W (.slice a0 len0 cap0) O ∧ ∀ o ∈ O, inR o.2.2.1 := by
  obtain ⟨fuel, hf⟩ := h
  rcases open_slice Tryd.underlying24 hf with ⟨hcs, _⟩ | ⟨a, len, cap, m, n, D, Pl, hcs, hb, hl, hm, hmm, _, hel⟩
  · simp [Value.cells] at hcs
    obtain ⟨rfl, rfl, rfl⟩ := hcs
    exact ⟨[], ⟨none, 0, rfl, fun i hi => absurd hi (by simp)⟩, fun c hc => by cases hc⟩
  · simp [Value.cells] at hcs
    obtain ⟨rfl, rfl, rfl⟩ := hcs
    have hlm : len0 ≤ m := by rw [hmm]; simp; omega
    rw [cells_O] at hel
    obtain ⟨E, hE⟩ := choose_lt (α := Int × Ent) (p := fun i o => (W.cell? (a.add (i * 4)) = some (.int .i64 o.1) ∧ W.cell? ((a.add (i * 4)).add 1) = some (.int .i64 o.2.1) ∧ W.cell? ((a.add (i * 4)).add 2) = some (.int .i64 o.2.2.1) ∧ W.cell? ((a.add (i * 4)).add 3) = some (.string o.2.2.2)) ∧ inR o.2.2.1) (n := len0) (fun i hi => by
      obtain ⟨cs', h1, h2⟩ := hel i (by omega)
      obtain ⟨o, rfl, h3⟩ := out_of_trod h2
      obtain ⟨_, _, hc⟩ := World.cells?_some h1
      refine ⟨o, ⟨?_, ?_, ?_, ?_⟩, h3⟩
      · simpa [Addr.add] using hc 0 (by omega)
      · simpa using hc 1 (by omega)
      · simpa using hc 2 (by omega)
      · simpa using hc 3 (by omega))
    refine ⟨(List.range len0).map E, ⟨some a, cap0, by simp, fun i hi => ?_⟩, ?_⟩
    · have hi' : i < len0 := by simpa using hi
      obtain ⟨⟨c1, c2, c3, c4⟩, _⟩ := hE i hi'
      obtain ⟨⟨c0, _⟩, _⟩ := hE 0 (by omega)
      obtain ⟨b, off, spot⟩ := a
      have hspot : spot = none := by simpa [Addr.add] using World.cell?_spot c0
      subst hspot
      simp only [add_plain] at c1 c2 c3 c4
      refine ⟨b, off, rfl, ?_, ?_, ?_, ?_⟩
      · simpa using c1
      · simpa using c2
      · simpa using c3
      · simpa using c4
    · intro o ho
      simp only [List.mem_map, List.mem_range] at ho
      obtain ⟨i, hi, rfl⟩ := ho
      exact (hE i hi).2

end
end Go.Proofs.YtcnbbmgclphfdaaDoor
