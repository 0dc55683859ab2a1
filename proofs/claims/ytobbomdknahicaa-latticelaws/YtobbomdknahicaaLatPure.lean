/- What follows for a lattice: turned, grouped, swallowed; the least and the greatest. -/
import Derived.Test.YtobbomdknahicaaLatSpec
namespace Go.Proofs.Ytobbomdknahicaa

theorem isI_of {n a : Nat} (h : a < n) : isI n (a : Int) = true := by rw [isI_cast]; exact decide_eq_true h
theorem lat_one {le : Int → Int → Bool} {n : Nat} (h : IsLat le n) {a : Nat} (ha : a < n) :
    joinI le n (a : Int) (a : Int) = (a : Int) ∧ meetI le n (a : Int) (a : Int) = (a : Int) ∧ le (botI le n) (a : Int) = true ∧ le (a : Int) (topI le n) = true :=
  ⟨h.join_self (isI_of ha), h.flip.join_self (isI_of ha), (h.bot_spec (by omega)).2 _ (isI_of ha), (h.flip.bot_spec (by omega)).2 _ (isI_of ha)⟩
theorem lat_two {le : Int → Int → Bool} {n : Nat} (h : IsLat le n) {a b : Nat} (ha : a < n) (hb : b < n) :
    joinI le n (b : Int) (a : Int) = joinI le n (a : Int) (b : Int) ∧ meetI le n (b : Int) (a : Int) = meetI le n (a : Int) (b : Int) ∧
    le (a : Int) (b : Int) = (joinI le n (a : Int) (b : Int) == (b : Int)) ∧ le (a : Int) (b : Int) = (meetI le n (a : Int) (b : Int) == (a : Int)) ∧
    joinI le n (a : Int) (meetI le n (a : Int) (b : Int)) = (a : Int) ∧ meetI le n (a : Int) (joinI le n (a : Int) (b : Int)) = (a : Int) := by
  have ia := isI_of ha
  have ib := isI_of hb
  refine ⟨h.join_comm ib ia, h.flip.join_comm ib ia, h.le_join ia ib, ?_, h.join_meet ia ib, h.flip.join_meet ia ib⟩
  have := h.flip.le_join ib ia
  rw [h.flip.join_comm ib ia] at this
  exact this
theorem lat_three {le : Int → Int → Bool} {n : Nat} (h : IsLat le n) {a b c : Nat} (ha : a < n) (hb : b < n) (hc : c < n) :
    joinI le n (a : Int) (joinI le n (b : Int) (c : Int)) = joinI le n (joinI le n (a : Int) (b : Int)) (c : Int) ∧
    meetI le n (a : Int) (meetI le n (b : Int) (c : Int)) = meetI le n (meetI le n (a : Int) (b : Int)) (c : Int) ∧
    (le (a : Int) (c : Int) = true → le (joinI le n (a : Int) (b : Int)) (c : Int) = le (b : Int) (c : Int)) := by
  have ia := isI_of ha
  have ib := isI_of hb
  have ic := isI_of hc
  refine ⟨(h.join_assoc ia ib ic).symm, (h.flip.join_assoc ia ib ic).symm, fun hac => ?_⟩
  obtain ⟨_, g1, g2, g3⟩ := h.join_spec ia ib
  cases hbc : le (b : Int) (c : Int)
  · cases hjc : le (joinI le n (a : Int) (b : Int)) (c : Int)
    · rfl
    · have := h.trans _ _ _ g2 hjc
      rw [hbc] at this; cases this
  · exact g3 _ hac hbc

/-- Two orders that say the same. -/
theorem join_congr {le le' : Int → Int → Bool} (h : ∀ a b, le a b = le' a b) : le = le' := funext fun a => funext fun b => h a b
theorem leI_congr {n : Nat} {E F : List (Nat × Nat)} (hE : ∀ e ∈ E, e.1 < n ∧ e.2 < n) (hF : ∀ e ∈ F, e.1 < n ∧ e.2 < n) (h : ∀ a b, Reach E a b ↔ Reach F a b) : leI n E = leI n F := by
  funext a b
  by_cases ha : isI n a = true
  · by_cases hb : isI n b = true
    · obtain ⟨x, hx, rfl⟩ := nat_of_isI ha
      obtain ⟨y, hy, rfl⟩ := nat_of_isI hb
      have e1 := leI_iff hE hx hy
      have e2 := leI_iff hF hx hy
      cases c1 : leI n E (x : Int) (y : Int)
      · cases c2 : leI n F (x : Int) (y : Int)
        · rfl
        · rw [e1.2 ((h x y).2 (e2.1 c2))] at c1; cases c1
      · rw [e2.2 ((h x y).1 (e1.1 c1))]
    · have e : ∀ G, leI n G a b = false := fun G => by unfold leI; simp [hb]
      rw [e, e]
  · have e : ∀ G, leI n G a b = false := fun G => by unfold leI; simp [ha]
    rw [e, e]
theorem leI_flip {n : Nat} {E F : List (Nat × Nat)} (hE : ∀ e ∈ E, e.1 < n ∧ e.2 < n) (hF : ∀ e ∈ F, e.1 < n ∧ e.2 < n) (h : ∀ a b, Reach E a b ↔ Reach F b a) : leI n F = flipI (leI n E) := by
  funext a b
  show leI n F a b = leI n E b a
  by_cases ha : isI n a = true
  · by_cases hb : isI n b = true
    · obtain ⟨x, hx, rfl⟩ := nat_of_isI ha
      obtain ⟨y, hy, rfl⟩ := nat_of_isI hb
      have e1 := leI_iff hE hy hx
      have e2 := leI_iff hF hx hy
      cases c1 : leI n E (y : Int) (x : Int)
      · cases c2 : leI n F (x : Int) (y : Int)
        · rfl
        · rw [e1.2 ((h y x).2 (e2.1 c2))] at c1; cases c1
      · exact e2.2 ((h y x).1 (e1.1 c1))
    · have e : ∀ G, leI n G a b = false := fun G => by unfold leI; simp [hb]
      have e' : ∀ G, leI n G b a = false := fun G => by unfold leI; simp [hb]
      rw [e, e']
  · have e : ∀ G, leI n G a b = false := fun G => by unfold leI; simp [ha]
    have e' : ∀ G, leI n G b a = false := fun G => by unfold leI; simp [ha]
    rw [e, e']
theorem flip_flip (le : Int → Int → Bool) : flipI (flipI le) = le := rfl
theorem latOk_flip (le : Int → Int → Bool) (n : Nat) : latOk (flipI le) n = latOk le n := by
  have hp : ∀ a b : Int, pairOk (flipI le) n a b = pairOk le n a b := fun a b => by
    show (!(a != b && le b a && le a b) && decide (0 ≤ meetI le n a b) && decide (0 ≤ joinI le n a b)) = (!(a != b && le a b && le b a) && decide (0 ≤ joinI le n a b) && decide (0 ≤ meetI le n a b))
    cases a != b <;> cases le a b <;> cases le b a <;> simp [Bool.and_comm]
  unfold latOk
  simp only [hp]

end Go.Proofs.Ytobbomdknahicaa
