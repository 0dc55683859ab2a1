/- What is read from the bytes of right rows: these rows. -/
import Derived.Test.YthbmcfbchomckaaTakeV
import Derived.Test.YthbmcfbchomckaaSound
namespace Go.Proofs.Ythbmcfbchomckaa
open Go.RowKit Go.Sort

theorem beN_encN (B : Nat) (h : B < 18446744073709551616) : beN (encN B) = B := by
  simp [beN, encN]
  omega
theorem decI_encI {n : Int} (hn : inR n) : decI (encI n) = n := by
  unfold inR at hn
  unfold decI encI
  rw [beN_encN _ (by omega)]
  omega
theorem encI_length (n : Int) : (encI n).length = 8 := rfl
theorem scan_esc (x : List UInt8) : ∀ s : List UInt8, scanT (esc s ++ 0 :: 0 :: x) = some (s, x)
  | [] => by simp [esc, scanT]
  | b :: s => by
    have ih := scan_esc x s
    by_cases hb : b = 0
    · subst hb
      simp only [esc, if_true, List.cons_append]
      rw [scanT, if_pos rfl, if_pos rfl, ih]
      rfl
    · simp only [esc, hb, if_false, List.cons_append]
      obtain ⟨c, r, hr⟩ : ∃ c r, esc s ++ 0 :: 0 :: x = c :: r := by
        cases esc s with
        | nil => exact ⟨_, _, rfl⟩
        | cons c r => exact ⟨_, _, rfl⟩
      rw [hr] at ih ⊢
      rw [scanT, if_neg hb, ih]
      rfl
theorem takeV_four (y : List UInt8) : takeV (4 :: y) = if y.length < 8 then none else some ((2, decI (y.take 8), E0), y.drop 8) := by simp [takeV]
theorem takeV_five (y : List UInt8) : takeV (5 :: y) = (scanT y).map (fun p => ((3, 0, ⟨p.1.toArray⟩), p.2)) := by simp [takeV]
theorem empty_of {s : ByteArray} (h : s.toList = []) : s = E0 := by
  rw [ByteArray.toList_eq] at h
  cases s with
  | mk d => simp at h; rw [h]

theorem take_encV {e : Ent} (h : Sound e) (x : List UInt8) : takeV (encV e ++ x) = some (e, x) := by
  obtain ⟨t, n, s⟩ := e
  obtain ⟨r, _, i⟩ := h
  simp only at r i
  rcases right_kinds r with rfl | ⟨rfl, hn⟩ | rfl | rfl
  · have a1 : n = 0 ∧ s.toList = [] := by
      by_cases c : n = 0 ∧ s.toList = []
      · exact c
      · simp [rightE, c] at r
    rw [a1.1, empty_of a1.2]
    rfl
  · have a1 : s.toList = [] := by
      by_cases c : s.toList = []
      · exact c
      · simp [rightE, c] at r
    rw [empty_of a1]
    rcases hn with rfl | rfl <;> rfl
  · have a1 : s.toList = [] := by
      by_cases c : s.toList = []
      · exact c
      · simp [rightE, c] at r
    rw [empty_of a1]
    show takeV (4 :: (encI n ++ x)) = _
    have hl : ¬ (encI n ++ x).length < 8 := by rw [List.length_append, encI_length]; omega
    rw [takeV_four, if_neg hl, List.take_left' (encI_length n), List.drop_left' (encI_length n), decI_encI i]
  · have a1 : n = 0 := by
      by_cases c : n = 0
      · exact c
      · simp [rightE, c] at r
    subst a1
    show takeV (5 :: ((esc s.data.toList ++ [0, 0]) ++ x)) = _
    have e : (esc s.data.toList ++ [0, 0]) ++ x = esc s.data.toList ++ 0 :: 0 :: x := by simp
    rw [takeV_five, e, scan_esc]
    rfl
theorem encV_ne (e : Ent) : encV e ≠ [] := by
  unfold encV
  split
  · simp
  split
  · simp
  split
  · simp
  · simp
theorem take_row {l : List Ent} {k : Nat} (h : k < l.length) (hl : ∀ e ∈ l, Sound e) : takeV (encRow (l.drop k)) = some (l[k], encRow (l.drop (k + 1))) := by
  rw [List.drop_eq_getElem_cons h]
  exact take_encV (hl _ (List.getElem_mem h)) _
theorem row_ne {l : List Ent} {k : Nat} (h : k < l.length) : encRow (l.drop k) ≠ [] := by
  rw [List.drop_eq_getElem_cons h]
  intro e
  exact encV_ne _ (List.append_eq_nil_iff.1 e).1

end Go.Proofs.Ythbmcfbchomckaa
