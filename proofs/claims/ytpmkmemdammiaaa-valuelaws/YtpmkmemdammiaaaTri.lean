/- True, false and null as they are reckoned with in the law ValueLaws: what its three functions of its own hand back; nothing that was there has turned. -/
import Derived.Test.YtpmkmemdammiaaaRight
namespace Go.Proofs.Ytpmkmemdammiaaa
open Go.RowKit Go.Sort

theorem setCell_self {w : World} {a : Addr} {v : Value} (h : w.cell? a = some v) : w.setCell a v = w := by
  have key : (w.heap.modify a.block fun
      | .cells c elem frozen => .cells (if a.spot.isSome then c else c.setIfInBounds a.off v) elem frozen
      | o => o) = w.heap := by
    apply Array.ext_getElem?
    intro k
    rw [Array.getElem?_modify]
    by_cases hk : a.block = k
    · rw [if_pos hk]
      subst hk
      unfold World.cell? at h
      cases ho : w.heap[a.block]? with
      | none => rfl
      | some o =>
        rw [ho] at h
        cases o with
        | cells c elem frozen =>
          simp only at h
          by_cases hs : a.spot.isSome = true
          · simp [hs]
          · simp only [hs, Bool.false_eq_true, if_false] at h
            have : c.setIfInBounds a.off v = c := by
              apply Array.ext_getElem?
              intro i
              rw [Array.getElem?_setIfInBounds]
              by_cases hi : a.off = i
              · subst hi
                have hlt : a.off < c.size := by
                  rcases Nat.lt_or_ge a.off c.size with h' | h'
                  · exact h'
                  · rw [Array.getElem?_eq_none h'] at h; cases h
                rw [if_pos rfl, if_pos hlt, h]
              · rw [if_neg hi]
            simp [hs, this]
        | _ => rfl
    · rw [if_neg hk]
  unfold World.setCell
  exact congrArg (fun h => ({ w with heap := h } : World)) key

/-- true, false, null: 'some true', 'some false', 'none'. -/
def tT : Option Bool → Int | none => 0 | some _ => 1
def tN : Option Bool → Int | some true => 1 | _ => 0
abbrev VT (x : Option Bool) : Value := V (tT x) (tN x) E0
def and3 (x y : Option Bool) : Option Bool := if x = some false ∨ y = some false then some false else if x = none ∨ y = none then none else some true
def or3 (x y : Option Bool) : Option Bool := if x = some true ∨ y = some true then some true else if x = none ∨ y = none then none else some false
def not3 (x : Option Bool) : Option Bool := x.map (!·)

theorem and_tri (x y : Option Bool) (w : World) : Calls Try.prog 20 #[VT x, VT y] w fun e w' => e = .returned (.tuple #[VT (and3 x y), .int .i64 0]) ∧ Below w.heap.size w w' := by
  have h := and_any (tT x) (tN x) E0 (tT y) (tN y) E0 w
  have e1 : decV false (tT x) (tN x) E0 (tT y) (tN y) E0 = VT (and3 x y) := by
    rcases x with _ | (_ | _) <;> rcases y with _ | (_ | _) <;> simp [decV, fitsB, isNull, veq, oneOf, anyN, tT, tN, and3]
  have e2 : decE (tT x) (tN x) E0 (tT y) (tN y) E0 = 0 := by
    rcases x with _ | (_ | _) <;> rcases y with _ | (_ | _) <;> simp [decE, fitsB, isNull, veq, tT, tN]
  rw [e1, e2] at h
  exact h
theorem or_tri (x y : Option Bool) (w : World) : Calls Try.prog 22 #[VT x, VT y] w fun e w' => e = .returned (.tuple #[VT (or3 x y), .int .i64 0]) ∧ Below w.heap.size w w' := by
  have h := or_any (tT x) (tN x) E0 (tT y) (tN y) E0 w
  have e1 : decV true (tT x) (tN x) E0 (tT y) (tN y) E0 = VT (or3 x y) := by
    rcases x with _ | (_ | _) <;> rcases y with _ | (_ | _) <;> simp [decV, fitsB, isNull, veq, oneOf, anyN, tT, tN, or3]
  have e2 : decE (tT x) (tN x) E0 (tT y) (tN y) E0 = 0 := by
    rcases x with _ | (_ | _) <;> rcases y with _ | (_ | _) <;> simp [decE, fitsB, isNull, veq, tT, tN]
  rw [e1, e2] at h
  exact h
theorem not_tri (x : Option Bool) (w : World) : Calls Try.prog 24 #[VT x] w fun e w' => e = .returned (.tuple #[VT (not3 x), .int .i64 0]) ∧ Below w.heap.size w w' := by
  have h := not_any (tT x) (tN x) E0 w
  have e1 : notP (tT x) (tN x) E0 = ⟨tT (not3 x), tN (not3 x), E0⟩ := by
    rcases x with _ | (_ | _) <;> simp [notP, fitsB, isNull, veq, oneOf, tT, tN, not3]
  have e2 : notE (tT x) (tN x) E0 = 0 := by
    rcases x with _ | (_ | _) <;> simp [notE, fitsB, isNull, veq, tT, tN]
  rw [e1, e2] at h
  exact h

set_option maxHeartbeats 1000000 in
theorem clAnd (x y : Option Bool) (k : Nat) (w : World) (hk : w.cell? ⟨k, 0, none⟩ = some (.bool true)) (hf : w.frozen? ⟨k, 0, none⟩ = false) :
    Calls Try.prog 19 #[VT x, VT y, .pointer (some ⟨k, 0, none⟩)] w fun e w' => e = .returned (VT (and3 x y)) ∧ Below w.heap.size w w' := by
  have hs := fun (W : World) (h : W.cell? ⟨k, 0, none⟩ = some (.bool true)) => setCell_self h
  have hlt : k < w.heap.size := block_lt_of_cell hk
  have z0 : ∀ j, k ≠ w.heap.size + j := fun j => by omega
  have k0 := and_tri x y
  have K0 : Hid _ := k0
  clear k0
  go_enter Try.func19, Try.ntmps19
  go_wp2_with fail
  refine (K0.out _).mono ?_
  rintro e w1 ⟨rfl, b1⟩
  obtain ⟨hc1, hf1⟩ := bcell b1
  have b0 := bnew (bnew (bnew b1))
  have ck : w1.cell? ⟨k, 0, none⟩ = some (.bool true) := (b0.cell (p := ⟨k, 0, none⟩) hlt).trans hk
  have fk : w1.frozen? ⟨k, 0, none⟩ = false := (b0.frozen (p := ⟨k, 0, none⟩) hlt).trans hf
  have zk : k < w1.heap.size := block_lt_of_cell ck
  have zr : w.heap.size + 1 + 1 < w1.heap.size := by have := b1.size; simp at this; omega
  go_wp2_with fail
  exact bodyPost_ret (v := VT (and3 x y)) (by simp [results, Try.results19, go_sem, hc1, zr]) rfl ⟨rfl, (bset3 b0 (by omega) _ _ _).alloc (bset3 b0 (by omega) _ _ _).size _⟩
set_option maxHeartbeats 1000000 in
theorem clOr (x y : Option Bool) (k : Nat) (w : World) (hk : w.cell? ⟨k, 0, none⟩ = some (.bool true)) (hf : w.frozen? ⟨k, 0, none⟩ = false) :
    Calls Try.prog 21 #[VT x, VT y, .pointer (some ⟨k, 0, none⟩)] w fun e w' => e = .returned (VT (or3 x y)) ∧ Below w.heap.size w w' := by
  have hs := fun (W : World) (h : W.cell? ⟨k, 0, none⟩ = some (.bool true)) => setCell_self h
  have hlt : k < w.heap.size := block_lt_of_cell hk
  have z0 : ∀ j, k ≠ w.heap.size + j := fun j => by omega
  have k0 := or_tri x y
  have K0 : Hid _ := k0
  clear k0
  go_enter Try.func21, Try.ntmps21
  go_wp2_with fail
  refine (K0.out _).mono ?_
  rintro e w1 ⟨rfl, b1⟩
  obtain ⟨hc1, hf1⟩ := bcell b1
  have b0 := bnew (bnew (bnew b1))
  have ck : w1.cell? ⟨k, 0, none⟩ = some (.bool true) := (b0.cell (p := ⟨k, 0, none⟩) hlt).trans hk
  have fk : w1.frozen? ⟨k, 0, none⟩ = false := (b0.frozen (p := ⟨k, 0, none⟩) hlt).trans hf
  have zk : k < w1.heap.size := block_lt_of_cell ck
  have zr : w.heap.size + 1 + 1 < w1.heap.size := by have := b1.size; simp at this; omega
  go_wp2_with fail
  exact bodyPost_ret (v := VT (or3 x y)) (by simp [results, Try.results21, go_sem, hc1, zr]) rfl ⟨rfl, (bset3 b0 (by omega) _ _ _).alloc (bset3 b0 (by omega) _ _ _).size _⟩
set_option maxHeartbeats 1000000 in
theorem clNot (x : Option Bool) (k : Nat) (w : World) (hk : w.cell? ⟨k, 0, none⟩ = some (.bool true)) (hf : w.frozen? ⟨k, 0, none⟩ = false) :
    Calls Try.prog 23 #[VT x, .pointer (some ⟨k, 0, none⟩)] w fun e w' => e = .returned (VT (not3 x)) ∧ Below w.heap.size w w' := by
  have hs := fun (W : World) (h : W.cell? ⟨k, 0, none⟩ = some (.bool true)) => setCell_self h
  have hlt : k < w.heap.size := block_lt_of_cell hk
  have z0 : ∀ j, k ≠ w.heap.size + j := fun j => by omega
  have k0 := not_tri x
  have K0 : Hid _ := k0
  clear k0
  go_enter Try.func23, Try.ntmps23
  go_wp2_with fail
  refine (K0.out _).mono ?_
  rintro e w1 ⟨rfl, b1⟩
  obtain ⟨hc1, hf1⟩ := bcell b1
  have b0 := bnew (bnew b1)
  have ck : w1.cell? ⟨k, 0, none⟩ = some (.bool true) := (b0.cell (p := ⟨k, 0, none⟩) hlt).trans hk
  have fk : w1.frozen? ⟨k, 0, none⟩ = false := (b0.frozen (p := ⟨k, 0, none⟩) hlt).trans hf
  have zk : k < w1.heap.size := block_lt_of_cell ck
  have zr : w.heap.size + 1 < w1.heap.size := by have := b1.size; simp at this; omega
  go_wp2_with fail
  exact bodyPost_ret (v := VT (not3 x)) (by simp [results, Try.results23, go_sem, hc1, zr]) rfl ⟨rfl, (bset3 b0 (by omega) _ _ _).alloc (bset3 b0 (by omega) _ _ _).size _⟩

/-- The statements' own Right. -/
theorem lawRight_any (t n : Int) (s : ByteArray) (w : World) :
    Calls Try.prog 18 #[V t n s] w fun e w' => e = .returned (.bool (rightE t n s == 0)) ∧ Below w.heap.size w w' := by
  go_enter Try.func18, Try.ntmps18
  go_wp2_with fail
  refine (refRight_any _ _ _ _).mono ?_
  rintro e w1 ⟨rfl, b1⟩
  go_wp2_with fail
  go_ret
  exact ⟨rfl, bnew b1⟩

end Go.Proofs.Ytpmkmemdammiaaa
