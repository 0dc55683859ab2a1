/- Plain facts on numbers of 64 bits: when a sum, a difference, a product or a quotient fits, and what is left of a division. No Go in sight. -/
import Derived.RowKit
namespace Go.Proofs.YtcnbbmgclphfdaaDoor
open Go.RowKit

/-- The number fits 64 bits. -/
def inR (z : Int) : Prop := -9223372036854775808 ≤ z ∧ z ≤ 9223372036854775807

theorem inR_wf {z : Int} (h : (Lit.int .i64 z).wf = true) : inR z := by
  simp only [Lit.wf, IntKind.min, IntKind.max, IntKind.signed, IntKind.bits, Bool.and_eq_true, decide_eq_true_eq, if_true] at h
  unfold inR; omega

theorem wrap_in {z : Int} (h : inR z) : wrap64 z = z := by unfold inR at h; unfold wrap64; omega
theorem wrap_inR (z : Int) : inR (wrap64 z) := by unfold inR wrap64; omega

theorem add_test {x y : Int} (h : inR (x + y)) : (!decide (wrap64 (x + y) < x) == decide (y < 0)) = false := by
  rw [wrap_in h]; by_cases c : y < 0 <;> simp [c] <;> omega
theorem add_test' {x y : Int} (hx : inR x) (hy : inR y) (h : ¬ inR (x + y)) : (!decide (wrap64 (x + y) < x) == decide (y < 0)) = true := by
  unfold inR at *; unfold wrap64; by_cases c : y < 0 <;> simp [c] <;> omega
theorem sub_test {x y : Int} (h : inR (x - y)) : (!decide (x < wrap64 (x - y)) == decide (y < 0)) = false := by
  rw [wrap_in h]; by_cases c : y < 0 <;> simp [c] <;> omega
theorem sub_test' {x y : Int} (hx : inR x) (hy : inR y) (h : ¬ inR (x - y)) : (!decide (x < wrap64 (x - y)) == decide (y < 0)) = true := by
  unfold inR at *; unfold wrap64; by_cases c : y < 0 <;> simp [c] <;> omega

/-- What is left of a division is smaller than the divisor, and has the sign of what is divided. -/
theorem tmod_small (x y : Int) (hy : y ≠ 0) : (x.tmod y < y ∧ -y < x.tmod y) ∨ (x.tmod y < -y ∧ y < x.tmod y) := by
  rcases Int.lt_or_gt_of_ne hy with h | h
  · right
    have e := Int.tmod_neg x (-y)
    rw [Int.neg_neg] at e
    rw [e]
    exact ⟨Int.tmod_lt_of_pos x (by omega), by have := Int.lt_tmod_of_pos x (show 0 < -y by omega); omega⟩
  · left; exact ⟨Int.tmod_lt_of_pos x h, Int.lt_tmod_of_pos x h⟩

theorem tmod_sign (x y : Int) : (0 ≤ x → 0 ≤ x.tmod y) ∧ (x ≤ 0 → x.tmod y ≤ 0) := by
  refine ⟨fun h => Int.tmod_nonneg y h, fun h => ?_⟩
  have e := Int.neg_tmod (-x) y
  rw [Int.neg_neg] at e
  rw [e]
  have := Int.tmod_nonneg y (show 0 ≤ -x by omega)
  omega

theorem div_mod (x y : Int) : x.tdiv y * y + x.tmod y = x := by
  have := Int.mul_tdiv_add_tmod x y
  rw [Int.mul_comm]; exact this

/-- A quotient fits, but for the least number by -1. -/
theorem tdiv_in {x y : Int} (hx : inR x) (hy : y ≠ 0) (h : ¬ (x = -9223372036854775808 ∧ y = -1)) : inR (x.tdiv y) := by
  have e := div_mod x y
  have s := tmod_small x y hy
  have g := tmod_sign x y
  generalize x.tdiv y = q at *
  generalize x.tmod y = r at *
  unfold inR at *
  by_cases h1 : y = 1
  · subst h1; omega
  by_cases h2 : y = -1
  · subst h2; omega
  -- |y| ≥ 2: were the quotient out of range, so would be what is divided
  by_cases hq : q ≤ 9223372036854775807 ∧ -9223372036854775808 ≤ q
  · omega
  exfalso
  have hq' : 9223372036854775808 ≤ q ∨ q ≤ -9223372036854775809 := by omega
  have hy' : 2 ≤ y ∨ y ≤ -2 := by omega
  rcases hq' with hq' | hq' <;> rcases hy' with hy' | hy'
  · have := Int.mul_le_mul_of_nonneg_right hq' (show 0 ≤ y by omega); omega
  · have := Int.mul_le_mul_of_nonneg_right hq' (show 0 ≤ -y by omega)
    rw [Int.mul_neg, Int.mul_neg] at this; omega
  · have := Int.mul_le_mul_of_nonneg_right hq' (show 0 ≤ y by omega); omega
  · have := Int.mul_le_mul_of_nonneg_right hq' (show 0 ≤ -y by omega)
    rw [Int.mul_neg, Int.mul_neg] at this; omega

/-- What a division by 2^64 leaves: a wrapped number differs by a multiple. -/
theorem wrap_ex (z : Int) : ∃ k : Int, wrap64 z = z + k * 18446744073709551616 :=
  ⟨-((z + 9223372036854775808) / 18446744073709551616), by unfold wrap64; omega⟩

/-- The product fits: it divides back. -/
theorem mul_back {x y : Int} (hx : inR x) (hy : y ≠ 0) (h : inR (x * y)) : wrap64 ((wrap64 (x * y)).tdiv y) = x := by
  rw [wrap_in h, Int.mul_tdiv_cancel x hy, wrap_in hx]

theorem mul_low {x y : Int} (h : inR (x * y)) : ¬ (x = -9223372036854775808 ∧ y = -1) := by
  rintro ⟨rfl, rfl⟩; unfold inR at h; omega

/-- The product does not fit, and it is not the least number by -1: it does not divide back. -/
theorem mul_off {x y : Int} (hyr : inR y) (hy : y ≠ 0) (h : ¬ inR (x * y)) (hl : ¬ (x = -9223372036854775808 ∧ y = -1)) : wrap64 ((wrap64 (x * y)).tdiv y) ≠ x := by
  intro e
  have hp := wrap_inR (x * y)
  obtain ⟨k, hk⟩ := wrap_ex (x * y)
  have hne : wrap64 (x * y) ≠ x * y := fun e => h (e ▸ hp)
  generalize wrap64 (x * y) = p at *
  by_cases hlow : p = -9223372036854775808 ∧ y = -1
  · obtain ⟨rfl, rfl⟩ := hlow
    have : wrap64 ((-9223372036854775808 : Int).tdiv (-1)) = -9223372036854775808 := by decide
    rw [this] at e
    exact hl ⟨e.symm, rfl⟩
  have hq := tdiv_in hp hy hlow
  rw [wrap_in hq] at e
  have d := div_mod p y
  have s := tmod_small p y hy
  rw [e] at d
  generalize x * y = m at *
  generalize p.tmod y = r at *
  unfold inR at *
  have hk0 : k ≠ 0 := by rintro rfl; apply hne; omega
  omega

end Go.Proofs.YtcnbbmgclphfdaaDoor
