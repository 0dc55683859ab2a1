/- The program's lattice in memory: one block of 548 cells, and what a store into it makes of it. -/
import Derived.Test.YtobbomdknahicaaMapS
import Derived.Test.YtobbomdknahicaaLatBits
import Derived.Deep.MidRow
import Derived.Deep.WholeRow
import Derived.Laws.BitsAllLaws
namespace Go.Proofs.Ytobbomdknahicaa
open Go.RowKit Go.Sort

/-- The cells of a lattice: its names, its places, what stands above and below, joins and meets, bottom and top. -/
def LatC (C : Array Value) (nv pv : Value) (A B : Nat → Nat) (J M : Nat → Nat → Int) (bt tp : Int) : Prop :=
  C.size = 548 ∧ C[0]? = some nv ∧ C[1]? = some pv ∧ (∀ a, a < 16 → C[2 + a]? = some (.int .u32 (A a : Int))) ∧ (∀ a, a < 16 → C[18 + a]? = some (.int .u32 (B a : Int))) ∧
    (∀ a b, a < 16 → b < 16 → C[34 + a * 16 + b]? = some (.int .i64 (J a b))) ∧ (∀ a b, a < 16 → b < 16 → C[290 + a * 16 + b]? = some (.int .i64 (M a b))) ∧
    C[546]? = some (.int .i64 bt) ∧ C[547]? = some (.int .i64 tp)
/-- Block q is such a lattice. -/
def LatW (w : World) (q : Nat) (nv pv : Value) (A B : Nat → Nat) (J M : Nat → Nat → Int) (bt tp : Int) : Prop :=
  ∃ C, w.heap[q]? = some (.cells C 60 (0, 0)) ∧ LatC C nv pv A B J M bt tp

theorem set_ne {C : Array Value} {i j : Nat} {v : Value} (h : i ≠ j) : (C.setIfInBounds i v)[j]? = C[j]? := Array.getElem?_setIfInBounds_ne h
theorem set_at {C : Array Value} {i : Nat} {v : Value} (h : i < C.size) : (C.setIfInBounds i v)[i]? = some v := Array.getElem?_setIfInBounds_self_of_lt h

section
variable {w : World} {q : Nat} {nv pv : Value} {A B : Nat → Nat} {J M : Nat → Nat → Int} {bt tp : Int}
theorem LatW.lt (h : LatW w q nv pv A B J M bt tp) : q < w.heap.size := by
  obtain ⟨C, h1, _⟩ := h
  exact (Array.getElem?_eq_some_iff.1 h1).1
theorem LatW.grown {w' : World} {row : Option Nat} (h : LatW w q nv pv A B J M bt tp) (hg : w.grownBy w' row) (hne : some q ≠ row) : LatW w' q nv pv A B J M bt tp := by
  have hlt := h.lt
  obtain ⟨C, h1, h2⟩ := h
  exact ⟨C, by rw [hg.block q hlt hne]; exact h1, h2⟩
theorem LatW.keep {w' : World} (h : LatW w q nv pv A B J M bt tp) (k : Below w.heap.size w w') : LatW w' q nv pv A B J M bt tp := h.grown (grownBy_of_below k) (by simp)
theorem LatW.drew (h : LatW w q nv pv A B J M bt tp) : LatW w.drew q nv pv A B J M bt tp := h
theorem LatW.frozen (h : LatW w q nv pv A B J M bt tp) (i : Nat) : w.frozen? ⟨q, i, none⟩ = false := by
  obtain ⟨C, h1, _⟩ := h
  exact frozen_of_row w q i C _ h1
theorem LatW.names (h : LatW w q nv pv A B J M bt tp) : w.cell? ⟨q, 0, none⟩ = some nv := by
  obtain ⟨C, h1, h2⟩ := h
  rw [cell_of_row w q 0 C _ _ h1]; exact h2.2.1
theorem LatW.places (h : LatW w q nv pv A B J M bt tp) : w.cell? ⟨q, 1, none⟩ = some pv := by
  obtain ⟨C, h1, h2⟩ := h
  rw [cell_of_row w q 1 C _ _ h1]; exact h2.2.2.1
theorem LatW.above (h : LatW w q nv pv A B J M bt tp) {a : Nat} (ha : a < 16) : w.cell? ⟨q, 2 + a, none⟩ = some (.int .u32 (A a : Int)) := by
  obtain ⟨C, h1, h2⟩ := h
  rw [cell_of_row w q _ C _ _ h1]; exact h2.2.2.2.1 a ha
theorem LatW.below (h : LatW w q nv pv A B J M bt tp) {a : Nat} (ha : a < 16) : w.cell? ⟨q, 18 + a, none⟩ = some (.int .u32 (B a : Int)) := by
  obtain ⟨C, h1, h2⟩ := h
  rw [cell_of_row w q _ C _ _ h1]; exact h2.2.2.2.2.1 a ha
theorem LatW.joins (h : LatW w q nv pv A B J M bt tp) {a b : Nat} (ha : a < 16) (hb : b < 16) : w.cell? ⟨q, 34 + a * 16 + b, none⟩ = some (.int .i64 (J a b)) := by
  obtain ⟨C, h1, h2⟩ := h
  rw [cell_of_row w q _ C _ _ h1]; exact h2.2.2.2.2.2.1 a b ha hb
theorem LatW.meets (h : LatW w q nv pv A B J M bt tp) {a b : Nat} (ha : a < 16) (hb : b < 16) : w.cell? ⟨q, 290 + a * 16 + b, none⟩ = some (.int .i64 (M a b)) := by
  obtain ⟨C, h1, h2⟩ := h
  rw [cell_of_row w q _ C _ _ h1]; exact h2.2.2.2.2.2.2.1 a b ha hb
theorem LatW.bot (h : LatW w q nv pv A B J M bt tp) : w.cell? ⟨q, 546, none⟩ = some (.int .i64 bt) := by
  obtain ⟨C, h1, h2⟩ := h
  rw [cell_of_row w q _ C _ _ h1]; exact h2.2.2.2.2.2.2.2.1
theorem LatW.top (h : LatW w q nv pv A B J M bt tp) : w.cell? ⟨q, 547, none⟩ = some (.int .i64 tp) := by
  obtain ⟨C, h1, h2⟩ := h
  rw [cell_of_row w q _ C _ _ h1]; exact h2.2.2.2.2.2.2.2.2
/-- The 16 cells of a row of sets. -/
def maskCells (A : Nat → Nat) : List Value := (List.range 16).map fun a => Value.int .u32 (A a : Int)
theorem maskCells_length (A : Nat → Nat) : (maskCells A).length = 16 := by simp [maskCells]
theorem maskCells_at {A : Nat → Nat} {a : Nat} (h : a < 16) : (maskCells A)[a]? = some (.int .u32 (A a : Int)) := by simp [maskCells, h]
theorem LatW.aboves (h : LatW w q nv pv A B J M bt tp) : w.rangeAt q 2 (maskCells A) := fun j v hj => by
  have hl : j < 16 := by have := (List.getElem?_eq_some_iff.1 hj).1; rwa [maskCells_length] at this
  rw [maskCells_at hl] at hj
  rw [h.above hl, ← hj]
theorem LatW.belows (h : LatW w q nv pv A B J M bt tp) : w.rangeAt q 18 (maskCells B) := fun j v hj => by
  have hl : j < 16 := by have := (List.getElem?_eq_some_iff.1 hj).1; rwa [maskCells_length] at this
  rw [maskCells_at hl] at hj
  rw [h.below hl, ← hj]

theorem LatW.setNames (h : LatW w q nv pv A B J M bt tp) (x : Value) : LatW (w.setCell ⟨q, 0, none⟩ x) q x pv A B J M bt tp := by
  obtain ⟨C, h1, h0, _, hp, ha, hb, hj, hm, ht, hu⟩ := h
  refine ⟨_, heap_setCell_same w q 0 C _ x h1, by simpa using h0, set_at (by omega), ?_, fun a g => ?_, fun a g => ?_, fun a b g k => ?_, fun a b g k => ?_, ?_, ?_⟩
  all_goals rw [set_ne (by omega)]
  · exact hp
  · exact ha a g
  · exact hb a g
  · exact hj a b g k
  · exact hm a b g k
  · exact ht
  · exact hu
theorem LatW.setPlaces (h : LatW w q nv pv A B J M bt tp) (x : Value) : LatW (w.setCell ⟨q, 1, none⟩ x) q nv x A B J M bt tp := by
  obtain ⟨C, h1, h0, hn, _, ha, hb, hj, hm, ht, hu⟩ := h
  refine ⟨_, heap_setCell_same w q 1 C _ x h1, by simpa using h0, ?_, set_at (by omega), fun a g => ?_, fun a g => ?_, fun a b g k => ?_, fun a b g k => ?_, ?_, ?_⟩
  all_goals rw [set_ne (by omega)]
  · exact hn
  · exact ha a g
  · exact hb a g
  · exact hj a b g k
  · exact hm a b g k
  · exact ht
  · exact hu
theorem LatW.setAbove (h : LatW w q nv pv A B J M bt tp) {k : Nat} (hk : k < 16) (x : Nat) : LatW (w.setCell ⟨q, 2 + k, none⟩ (.int .u32 (x : Int))) q nv pv (setM A k x) B J M bt tp := by
  obtain ⟨C, h1, h0, hn, hp, ha, hb, hj, hm, ht, hu⟩ := h
  refine ⟨_, heap_setCell_same w q _ C _ _ h1, by simpa using h0, ?_, ?_, fun a g => ?_, fun a g => ?_, fun a b g k => ?_, fun a b g k => ?_, ?_, ?_⟩
  case refine_3 =>
    by_cases e : a = k
    · subst e; rw [set_at (by omega), setM_same]
    · rw [set_ne (by omega), setM_other e]; exact ha a g
  all_goals rw [set_ne (by omega)]
  · exact hn
  · exact hp
  · exact hb a g
  · exact hj a b g k
  · exact hm a b g k
  · exact ht
  · exact hu
theorem LatW.setBelow (h : LatW w q nv pv A B J M bt tp) {k : Nat} (hk : k < 16) (x : Nat) : LatW (w.setCell ⟨q, 18 + k, none⟩ (.int .u32 (x : Int))) q nv pv A (setM B k x) J M bt tp := by
  obtain ⟨C, h1, h0, hn, hp, ha, hb, hj, hm, ht, hu⟩ := h
  refine ⟨_, heap_setCell_same w q _ C _ _ h1, by simpa using h0, ?_, ?_, fun a g => ?_, fun a g => ?_, fun a b g k => ?_, fun a b g k => ?_, ?_, ?_⟩
  case refine_4 =>
    by_cases e : a = k
    · subst e; rw [set_at (by omega), setM_same]
    · rw [set_ne (by omega), setM_other e]; exact hb a g
  all_goals rw [set_ne (by omega)]
  · exact hn
  · exact hp
  · exact ha a g
  · exact hj a b g k
  · exact hm a b g k
  · exact ht
  · exact hu
theorem LatW.setJoin (h : LatW w q nv pv A B J M bt tp) {x y : Nat} (hx : x < 16) (hy : y < 16) (z : Int) : LatW (w.setCell ⟨q, 34 + x * 16 + y, none⟩ (.int .i64 z)) q nv pv A B (setJ J x y z) M bt tp := by
  obtain ⟨C, h1, h0, hn, hp, ha, hb, hj, hm, ht, hu⟩ := h
  refine ⟨_, heap_setCell_same w q _ C _ _ h1, by simpa using h0, ?_, ?_, fun a g => ?_, fun a g => ?_, fun a b g k => ?_, fun a b g k => ?_, ?_, ?_⟩
  case refine_5 =>
    by_cases e : a = x ∧ b = y
    · obtain ⟨rfl, rfl⟩ := e; rw [set_at (by omega)]; simp [setJ]
    · rw [set_ne (by omega)]
      simp only [setJ, e, if_false]
      exact hj a b g k
  all_goals rw [set_ne (by omega)]
  · exact hn
  · exact hp
  · exact ha a g
  · exact hb a g
  · exact hm a b g k
  · exact ht
  · exact hu
theorem LatW.setMeet (h : LatW w q nv pv A B J M bt tp) {x y : Nat} (hx : x < 16) (hy : y < 16) (z : Int) : LatW (w.setCell ⟨q, 290 + x * 16 + y, none⟩ (.int .i64 z)) q nv pv A B J (setJ M x y z) bt tp := by
  obtain ⟨C, h1, h0, hn, hp, ha, hb, hj, hm, ht, hu⟩ := h
  refine ⟨_, heap_setCell_same w q _ C _ _ h1, by simpa using h0, ?_, ?_, fun a g => ?_, fun a g => ?_, fun a b g k => ?_, fun a b g k => ?_, ?_, ?_⟩
  case refine_6 =>
    by_cases e : a = x ∧ b = y
    · obtain ⟨rfl, rfl⟩ := e; rw [set_at (by omega)]; simp [setJ]
    · rw [set_ne (by omega)]
      simp only [setJ, e, if_false]
      exact hm a b g k
  all_goals rw [set_ne (by omega)]
  · exact hn
  · exact hp
  · exact ha a g
  · exact hb a g
  · exact hj a b g k
  · exact ht
  · exact hu
theorem LatW.setBot (h : LatW w q nv pv A B J M bt tp) (z : Int) : LatW (w.setCell ⟨q, 546, none⟩ (.int .i64 z)) q nv pv A B J M z tp := by
  obtain ⟨C, h1, h0, hn, hp, ha, hb, hj, hm, ht, hu⟩ := h
  refine ⟨_, heap_setCell_same w q _ C _ _ h1, by simpa using h0, ?_, ?_, fun a g => ?_, fun a g => ?_, fun a b g k => ?_, fun a b g k => ?_, set_at (by omega), ?_⟩
  all_goals rw [set_ne (by omega)]
  · exact hn
  · exact hp
  · exact ha a g
  · exact hb a g
  · exact hj a b g k
  · exact hm a b g k
  · exact hu
theorem LatW.setTop (h : LatW w q nv pv A B J M bt tp) (z : Int) : LatW (w.setCell ⟨q, 547, none⟩ (.int .i64 z)) q nv pv A B J M bt z := by
  obtain ⟨C, h1, h0, hn, hp, ha, hb, hj, hm, ht, hu⟩ := h
  refine ⟨_, heap_setCell_same w q _ C _ _ h1, by simpa using h0, ?_, ?_, fun a g => ?_, fun a g => ?_, fun a b g k => ?_, fun a b g k => ?_, ?_, set_at (by omega)⟩
  all_goals rw [set_ne (by omega)]
  · exact hn
  · exact hp
  · exact ha a g
  · exact hb a g
  · exact hj a b g k
  · exact hm a b g k
  · exact ht
end
/-- A store into a block changes that block alone. -/
theorem grown_set (w : World) (q i : Nat) (x : Value) : w.grownBy (w.setCell ⟨q, i, none⟩ x) (some q) :=
  ⟨rfl, rfl, rfl, by simp, fun k _ hk => heap_setCell_other w ⟨q, i, none⟩ k x (fun e => hk (by simp [e]))⟩
theorem grown_refl (w : World) (r : Option Nat) : w.grownBy w r := ⟨rfl, rfl, rfl, Nat.le_refl _, fun _ _ _ => rfl⟩
theorem grown_drew {w w' : World} {r : Option Nat} (h : w.grownBy w' r) : w.grownBy w'.drew r := ⟨h.os, h.tape, h.output, h.size, h.block⟩
theorem grown_trans {a b c : World} {r : Option Nat} (h : a.grownBy b r) (k : b.grownBy c r) : a.grownBy c r :=
  ⟨k.os.trans h.os, k.tape.trans h.tape, k.output.trans h.output, Nat.le_trans h.size k.size, fun i hi hne => (k.block i (Nat.lt_of_lt_of_le hi h.size) hne).trans (h.block i hi hne)⟩

theorem grown_below {a b c : World} {r : Option Nat} (h : a.grownBy b r) (k : Below b.heap.size b c) : a.grownBy c r := grown_trans h ⟨k.os, k.tape, k.output, k.size, fun i hi _ => k.block i hi⟩

/-- Is a level among the bits? -/
theorem bit_mod (s a : Nat) : ((s / 2 ^ a % 2 : Nat) == 1) = s.testBit a := by
  rw [Nat.testBit_eq_decide_div_mod_eq]
  by_cases h : s / 2 ^ a % 2 = 1 <;> simp [h]

end Go.Proofs.Ytobbomdknahicaa
