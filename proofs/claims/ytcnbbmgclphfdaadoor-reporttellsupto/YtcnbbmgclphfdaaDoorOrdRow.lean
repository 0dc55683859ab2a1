/- Contracts of the two Orders of rows, and of Same. -/
import Derived.Test.YtcnbbmgclphfdaaDoorOrdRef
import Derived.Test.YtcnbbmgclphfdaaDoorOwnV
namespace Go.Proofs.YtcnbbmgclphfdaaDoor
open Go.RowKit Go.Sort

def ordE (e f : Ent) : Int := ordV e.1 e.2.1 e.2.2 f.1 f.2.1 f.2.2
/-- How two rows stand. -/
def ordRow : List Ent → List Ent → Int
  | [], [] => 0
  | [], _ :: _ => -1
  | _ :: _, [] => 1
  | e :: l, f :: m => if ordE e f = 0 then ordRow l m else ordE e f
/-- Are two rows the same? -/
def sameV (e f : Ent) : Bool := veq e.1 e.2.1 e.2.2 f.1 f.2.1 f.2.2
def sameB : List Ent → List Ent → Bool
  | [], [] => true
  | e :: l, f :: m => sameV e f && sameB l m
  | _, _ => false
theorem ordRow_drop {l m : List Ent} {k : Nat} (h : k < l.length) (h' : k < m.length) : ordRow (l.drop k) (m.drop k) = if ordE l[k] m[k] = 0 then ordRow (l.drop (k + 1)) (m.drop (k + 1)) else ordE l[k] m[k] := by
  rw [List.drop_eq_getElem_cons h, List.drop_eq_getElem_cons h']; rfl
theorem sameB_drop {l m : List Ent} {k : Nat} (h : k < l.length) (h' : k < m.length) : sameB (l.drop k) (m.drop k) = (sameV l[k] m[k] && sameB (l.drop (k + 1)) (m.drop (k + 1))) := by
  rw [List.drop_eq_getElem_cons h, List.drop_eq_getElem_cons h']; rfl
theorem ordRow_end {l m : List Ent} {k : Nat} (h : k ≤ l.length) (h' : k ≤ m.length) (he : k = l.length ∨ k = m.length) : ordRow (l.drop k) (m.drop k) = ordI l.length m.length := by
  rcases Nat.lt_or_ge k l.length with h1 | h1
  · have hk : k = m.length := by omega
    rw [List.drop_eq_getElem_cons h1, List.drop_eq_nil_of_le (show m.length ≤ k by omega)]
    have h3 : ¬ (l.length : Int) < m.length := by omega
    have h4 : (m.length : Int) < l.length := by omega
    simp [ordRow, ordI, h3, h4]
  · have hk : k = l.length := by omega
    rcases Nat.lt_or_ge k m.length with h2 | h2
    · rw [List.drop_eq_getElem_cons h2, List.drop_eq_nil_of_le h1]
      have h3 : (l.length : Int) < m.length := by omega
      simp [ordRow, ordI, h3]
    · rw [List.drop_eq_nil_of_le h1, List.drop_eq_nil_of_le h2]
      have h3 : l.length = m.length := by omega
      simp [ordRow, ordI, h3]
theorem sameB_length : ∀ {l m : List Ent}, sameB l m = true → l.length = m.length
  | [], [], _ => rfl
  | e :: l, f :: m, h => by
    simp only [sameB, Bool.and_eq_true] at h
    simpa using sameB_length h.2
  | [], _ :: _, h => by simp [sameB] at h
  | _ :: _, [], h => by simp [sameB] at h

/-- A row's entry in memory, in a later world. -/
theorem lie_at {w wr : World} {l : List Ent} {ao : Option Addr} {k : Nat} (hc : ∀ i (h : i < l.length), ∃ b off, ao = some ⟨b, off, none⟩ ∧ w.cell? ⟨b, off + i * 3, none⟩ = some (.int .i64 l[i].1) ∧
    w.cell? ⟨b, off + i * 3 + 1, none⟩ = some (.int .i64 l[i].2.1) ∧ w.cell? ⟨b, off + i * 3 + 2, none⟩ = some (.string l[i].2.2)) (hbel : Below w.heap.size w wr) (hk : k < l.length) :
    ∃ b off, ao = some ⟨b, off, none⟩ ∧ wr.cell? ⟨b, off + k * 3, none⟩ = some (.int .i64 l[k].1) ∧ wr.cell? ⟨b, off + k * 3 + 1, none⟩ = some (.int .i64 l[k].2.1) ∧ wr.cell? ⟨b, off + k * 3 + 2, none⟩ = some (.string l[k].2.2) := by
  obtain ⟨b, off, h0, h1, h2, h3⟩ := hc k hk
  exact ⟨b, off, h0, (hbel.cell (block_lt_of_cell h1)).trans h1, (hbel.cell (block_lt_of_cell h2)).trans h2, (hbel.cell (block_lt_of_cell h3)).trans h3⟩

end Go.Proofs.YtcnbbmgclphfdaaDoor
