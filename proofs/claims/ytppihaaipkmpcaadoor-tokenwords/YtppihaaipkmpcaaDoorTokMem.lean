/- Tokens in memory. -/
import Derived.Test.YtppihaaipkmpcaaDoorCore
import Derived.Test.YtppihaaipkmpcaaDoorTokSpec
import Derived.Test.YtppihaaipkmpcaaDoorOwnG
namespace Go.Proofs.YtppihaaipkmpcaaDoor
open Go.RowKit Go.Sort

/-- A token as a value. -/
abbrev T4 (k : Int) (t : ByteArray) (n a : Int) : Value := .agg #[.int .i64 k, .string t, .int .i64 n, .int .i64 a]
theorem extract_mid (s : ByteArray) (k e : Nat) : s.extract k e = ⟨((s.data.toList.drop k).take (e - k)).toArray⟩ := by
  refine toList_inj ?_
  rw [ByteArray.toList_eq, ByteArray.toList_eq]
  simp [ByteArray.extract, ByteArray.copySlice]

/-- A token in a block. -/
def TokAt (w : World) (b : Nat) (k : Int) (t : ByteArray) (n a : Int) : Prop := w.heap[b]? = some (.cells #[.int .i64 k, .string t, .int .i64 n, .int .i64 a] 34 (0, 0))
theorem TokAt.cells {w : World} {b : Nat} {k n a : Int} {t : ByteArray} (h : TokAt w b k t n a) : w.cell? ⟨b, 0, none⟩ = some (.int .i64 k) ∧ w.cell? ⟨b, 1, none⟩ = some (.string t) ∧ w.cell? ⟨b, 2, none⟩ = some (.int .i64 n) ∧ w.cell? ⟨b, 3, none⟩ = some (.int .i64 a) := by
  refine ⟨?_, ?_, ?_, ?_⟩ <;> (rw [cell_of_row w b _ _ _ _ h]; rfl)
theorem TokAt.frozen {w : World} {b : Nat} {k n a : Int} {t : ByteArray} (h : TokAt w b k t n a) (i : Nat) : w.frozen? ⟨b, i, none⟩ = false := frozen_of_row w b i _ _ h
theorem TokAt.lt {w : World} {b : Nat} {k n a : Int} {t : ByteArray} (h : TokAt w b k t n a) : b < w.heap.size := (Array.getElem?_eq_some_iff.1 h).1
theorem TokAt.keep {w w' : World} {b : Nat} {k n a : Int} {t : ByteArray} (h : TokAt w b k t n a) (g : Below w.heap.size w w') : TokAt w' b k t n a := (g.block b h.lt).trans h
theorem TokAt.alloc {w : World} {b : Nat} {k n a : Int} {t : ByteArray} (h : TokAt w b k t n a) (o : Obj) : TokAt (w.alloc o) b k t n a := h.keep ((Below.refl _ _).alloc (Nat.le_refl _) _)

/-- A token's cells. -/
def encT (t : Tk) : List Value := [.int .i64 t.1, .string t.2.1, .int .i64 t.2.2.1, .int .i64 t.2.2.2]
theorem encT_len (t : Tk) : (encT t).length = 4 := rfl
theorem encT_one (t : Tk) : ∀ u ∈ encT t, u.oneCell' = true := by
  intro u hu
  simp only [encT, List.mem_cons, List.not_mem_nil, or_false] at hu
  rcases hu with rfl | rfl | rfl | rfl <;> rfl
theorem info_T : (Tryd.prog.info? 34).map (fun i => (i.zero, i.size, i.bytes)) = some (some (.agg #[.int .i64 0, .string ⟨#[]⟩, .int .i64 0, .int .i64 0]), 4, 40) := by kernel_rfl
theorem aheadT_err {out : List Tk} {p : Nat} {e : Int} (h : e ≠ 0) (l : List Tk) : aheadT out (l, p, e) = ([], p, e) := by simp [aheadT, h]

theorem aheadT_form (out : List Tk) (r : List Tk × Nat × Int) : ((aheadT out r).2.2 = 0 → (aheadT out r).2.1 = 0) ∧ ((aheadT out r).2.2 ≠ 0 → (aheadT out r).1 = []) := by
  unfold aheadT
  by_cases h : r.2.2 = 0
  · rw [if_pos h]; exact ⟨fun _ => rfl, fun h => absurd rfl h⟩
  · rw [if_neg h]; exact ⟨fun h' => absurd h' h, fun _ => rfl⟩
/-- With an error no tokens; without one the place is 0. -/
theorem scanF_form : ∀ (f : Nat) (l : List UInt8) (o k : Nat), ((scanF f l o k).2.2 = 0 → (scanF f l o k).2.1 = 0) ∧ ((scanF f l o k).2.2 ≠ 0 → (scanF f l o k).1 = [])
  | 0, _, _, _ => ⟨fun _ => rfl, fun _ => rfl⟩
  | f + 1, [], o, k => by
    unfold scanF
    split
    · exact ⟨fun h => by simp at h, fun _ => rfl⟩
    · exact ⟨fun _ => rfl, fun h => absurd rfl h⟩
  | f + 1, c :: r, o, k => by
    unfold scanF
    split
    · exact scanF_form f _ _ _
    · split
      · exact scanF_form f _ _ _
      · split
        · exact ⟨fun h => by simp at h, fun _ => rfl⟩
        · split
          · exact ⟨fun h => by simp at h, fun _ => rfl⟩
          · exact aheadT_form _ _

end Go.Proofs.YtppihaaipkmpcaaDoor
