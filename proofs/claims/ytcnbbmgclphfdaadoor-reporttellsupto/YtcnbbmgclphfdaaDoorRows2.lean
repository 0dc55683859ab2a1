/- Rows of values in memory, and what Encode answers. -/
import Derived.Test.YtcnbbmgclphfdaaDoorPutV
import Derived.Test.YtcnbbmgclphfdaaDoorRight
namespace Go.Proofs.YtcnbbmgclphfdaaDoor
open Go.RowKit Go.Sort

/-- v is a slice of values and holds l. -/
def Lies (w : World) (v : Value) (l : List Ent) : Prop :=
  ∃ ao cap, v = .slice ao l.length cap ∧ ∀ i (h : i < l.length), ∃ b off, ao = some ⟨b, off, none⟩ ∧ w.cell? ⟨b, off + i * 3, none⟩ = some (.int .i64 l[i].1) ∧
    w.cell? ⟨b, off + i * 3 + 1, none⟩ = some (.int .i64 l[i].2.1) ∧ w.cell? ⟨b, off + i * 3 + 2, none⟩ = some (.string l[i].2.2)
theorem Lies.keep {w w' : World} {v : Value} {l : List Ent} (h : Lies w v l) (k : Below w.heap.size w w') : Lies w' v l := by
  obtain ⟨ao, cap, rfl, hc⟩ := h
  refine ⟨ao, cap, rfl, fun i hi => ?_⟩
  obtain ⟨b, off, h0, h1, h2, h3⟩ := hc i hi
  exact ⟨b, off, h0, (k.cell (block_lt_of_cell h1)).trans h1, (k.cell (block_lt_of_cell h2)).trans h2, (k.cell (block_lt_of_cell h3)).trans h3⟩

/-- The first error of a row's values. -/
def rowErr : List Ent → Int
  | [] => 0
  | e :: r => if rightE e.1 e.2.1 e.2.2 = 0 then rowErr r else rightE e.1 e.2.1 e.2.2
/-- Encode's error. -/
def encErr (l : List Ent) : Int := if rowErr l = 0 then (if 40 < l.length then 8 else 0) else rowErr l
/-- A row's bytes. -/
def encRow (l : List Ent) : List UInt8 := l.flatMap encV
/-- Encode's text. -/
def encS (l : List Ent) : ByteArray := if encErr l = 0 then ⟨(encRow l).toArray⟩ else E0
/-- Rows that the statements go through: no text is long, and numbers are those of the machine. -/
def Fair (l : List Ent) : Prop := ∀ e ∈ l, e.2.2.size ≤ 1100 ∧ inR e.1 ∧ inR e.2.1

theorem rowErr_drop {l : List Ent} {k : Nat} (hk : k < l.length) : rowErr (l.drop k) = if rightE l[k].1 l[k].2.1 l[k].2.2 = 0 then rowErr (l.drop (k + 1)) else rightE l[k].1 l[k].2.1 l[k].2.2 := by
  rw [List.drop_eq_getElem_cons hk]; rfl
theorem rowErr_zero {l : List Ent} (h : rowErr l = 0) : ∀ e ∈ l, rightE e.1 e.2.1 e.2.2 = 0 := by
  induction l with
  | nil => intro e he; cases he
  | cons a l ih =>
    intro e he
    by_cases ha : rightE a.1 a.2.1 a.2.2 = 0
    · simp only [rowErr, ha, if_true] at h
      rcases List.mem_cons.1 he with rfl | he
      · exact ha
      · exact ih h e he
    · simp only [rowErr, ha, if_false] at h
theorem right_kinds {t n : Int} {s : ByteArray} (h : rightE t n s = 0) : t = 0 ∨ (t = 1 ∧ (n = 0 ∨ n = 1)) ∨ t = 2 ∨ t = 3 := by
  unfold rightE at h
  by_cases h0 : t = 0
  · exact .inl h0
  by_cases h1 : t = 1
  · rw [if_neg h0, if_pos h1] at h
    refine .inr (.inl ⟨h1, ?_⟩)
    by_cases hn : (n = 0 ∨ n = 1) ∧ s.toList = []
    · exact hn.1
    · rw [if_neg hn] at h; omega
  by_cases h2 : t = 2
  · exact .inr (.inr (.inl h2))
  by_cases h3 : t = 3
  · exact .inr (.inr (.inr h3))
  rw [if_neg h0, if_neg h1, if_neg h2, if_neg h3] at h
  omega
theorem encV_length {e : Ent} (h : e.2.2.size ≤ 1100) : (encV e).length ≤ 2203 := by
  have := esc_length_le e.2.2.data.toList
  have hs : e.2.2.data.toList.length = e.2.2.size := by simp
  unfold encV encI
  split
  · simp
  split
  · simp [encN_length]
  split
  · simp; omega
  · simp
theorem encRow_length {l : List Ent} (h : Fair l) : (encRow l).length ≤ 2203 * l.length := by
  induction l with
  | nil => simp [encRow]
  | cons a l ih =>
    have h1 := encV_length (h a (List.mem_cons_self ..)).1
    have h2 := ih fun e he => h e (List.mem_cons_of_mem _ he)
    simp only [encRow, List.flatMap_cons, List.length_append, List.length_cons] at h2 ⊢
    omega
theorem Fair.take {l : List Ent} (h : Fair l) (k : Nat) : Fair (l.take k) := fun e he => h e (List.mem_of_mem_take he)
theorem encRow_take {l : List Ent} {k : Nat} (hk : k < l.length) : encRow (l.take (k + 1)) = encRow (l.take k) ++ encV l[k] := by
  rw [List.take_succ_eq_append_getElem hk]
  unfold encRow
  rw [List.flatMap_append]
  simp only [List.flatMap_cons, List.flatMap_nil, List.append_nil]

end Go.Proofs.YtcnbbmgclphfdaaDoor
