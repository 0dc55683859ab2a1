/- The library's sort by insertion, without Go: what its loops keep. -/
import Derived.Test.YtalfeggddfpgeaaDoorRwKey
namespace Go.Proofs.YtalfeggddfpgeaaDoor
open Go.RowKit Go.Sort

/-- Inside the inner loop: the value of place j is on its way down. -/
structure Ins (cf : Nat → Nat → Int) (P : List Nat) (a b i j : Nat) : Prop where
  aj : a ≤ j
  ji : j ≤ i
  ib : i < b
  bl : b ≤ P.length
  O : ∀ k l, a ≤ k → k < l → l ≤ i → k ≠ j → l ≠ j → lt cf (nth P k) (nth P l)
  U : ∀ k, j < k → k ≤ i → lt cf (nth P j) (nth P k)
  N : ∀ k, a ≤ k → k ≤ i → k ≠ j → nth P k < nth P j
  B : ∀ k l, a ≤ k → k ≤ i → i < l → l < b → nth P k < nth P l
/-- Between two rounds of the outer loop. -/
structure Out (cf : Nat → Nat → Int) (P : List Nat) (a b i : Nat) : Prop where
  ai : a < i
  ib : i ≤ b ∨ i = a + 1
  bl : b ≤ P.length
  S : SortedOn cf P a i
  B : ∀ k l, a ≤ k → k < i → i ≤ l → l < b → nth P k < nth P l
  R : ∀ k l, i ≤ k → k < l → l < b → nth P k < nth P l
theorem Out.start {cf : Nat → Nat → Int} {P : List Nat} {a b : Nat} (hb : b ≤ P.length) (h : ∀ k l, a ≤ k → k < l → l < b → nth P k < nth P l) : Out cf P a b (a + 1) :=
  ⟨by omega, .inr rfl, hb, fun k l h1 h2 h3 => by omega, fun k l h1 h2 h3 h4 => h k l h1 (by omega) h4, fun k l h1 h2 h3 => h k l (by omega) h2 h3⟩
theorem Out.inner {cf : Nat → Nat → Int} {P : List Nat} {a b i : Nat} (h : Out cf P a b i) (hib : i < b) : Ins cf P a b i i :=
  ⟨by have := h.ai; omega, Nat.le_refl _, hib, h.bl, fun k l h1 h2 h3 h4 h5 => h.S k l h1 h2 (by omega), fun k h1 h2 => by omega, fun k h1 h2 h3 => h.B k i h1 (by omega) (Nat.le_refl _) hib,
    fun k l h1 h2 h3 h4 => by
      by_cases c : k = i
      · subst c; exact h.R k l (Nat.le_refl _) h3 h4
      · exact h.B k l h1 (by omega) (by omega) h4⟩
theorem Ins.step {cf : Nat → Nat → Int} {P : List Nat} {a b i j : Nat} (h : Ins cf P a b i (j + 1)) (haj : a ≤ j) (hlt : cf (nth P (j + 1)) (nth P j) < 0) : Ins cf (swp P (j + 1) j) a b i j := by
  have h1 := h.ji
  have h2 := h.ib
  have h3 := h.bl
  have hs : ∀ k, nth (swp P (j + 1) j) k = if k = j then nth P (j + 1) else if k = j + 1 then nth P j else nth P k := fun k => nth_swp (by omega) (by omega)
  refine ⟨haj, by omega, h2, by rw [swp_length]; exact h3, fun k l x1 x2 x3 x4 x5 => ?_, fun k x1 x2 => ?_, fun k x1 x2 x3 => ?_, fun k l x1 x2 x3 x4 => ?_⟩
  · rw [hs, hs, if_neg x4, if_neg x5]
    by_cases c : k = j + 1
    · subst c
      rw [if_pos rfl, if_neg (by omega)]
      exact h.O j l haj (by omega) x3 (by omega) (by omega)
    · rw [if_neg c]
      by_cases d : l = j + 1
      · subst d
        rw [if_pos rfl]
        exact h.O k j x1 (by omega) (by omega) (by omega) (by omega)
      · rw [if_neg d]
        exact h.O k l x1 x2 x3 c d
  · rw [hs, hs, if_pos rfl, if_neg (by omega)]
    by_cases c : k = j + 1
    · subst c; rw [if_pos rfl]; exact .inl hlt
    · rw [if_neg c]; exact h.U k (by omega) x2
  · rw [hs, hs, if_pos rfl, if_neg x3]
    by_cases c : k = j + 1
    · subst c; rw [if_pos rfl]; exact h.N j haj (by omega) (by omega)
    · rw [if_neg c]; exact h.N k x1 x2 c
  · rw [hs, hs, if_neg (show ¬ l = j by omega), if_neg (show ¬ l = j + 1 by omega)]
    by_cases c : k = j
    · rw [if_pos c]; exact h.B (j + 1) l (by omega) h1 x3 x4
    · rw [if_neg c]
      by_cases d : k = j + 1
      · rw [if_pos d]; exact h.B j l haj (by omega) x3 x4
      · rw [if_neg d]; exact h.B k l x1 x2 x3 x4
theorem Ins.done {cf : Nat → Nat → Int} (hc : Pre cf) {P : List Nat} {a b i j : Nat} (h : Ins cf P a b i j) (hR : ∀ k l, i < k → k < l → l < b → nth P k < nth P l) (hd : j = a ∨ ¬ cf (nth P j) (nth P (j - 1)) < 0) : Out cf P a b (i + 1) := by
  have h1 := h.ji
  have h2 := h.ib
  have h3 := h.aj
  have low : ∀ k, a ≤ k → k < j → lt cf (nth P k) (nth P j) := fun k x1 x2 => by
    rcases hd with hd | hd
    · omega
    · have y : lt cf (nth P (j - 1)) (nth P j) := lt_not hc (h.N (j - 1) (by omega) (by omega) (by omega)) hd
      by_cases c : k = j - 1
      · rw [c]; exact y
      · exact lt_trans' hc (h.O k (j - 1) x1 (by omega) (by omega) (by omega) (by omega)) y
  refine ⟨by omega, .inl (by omega), h.bl, fun k l x1 x2 x3 => ?_, fun k l x1 x2 x3 x4 => h.B k l x1 (by omega) (by omega) x4, fun k l x1 x2 x3 => hR k l (by omega) x2 x3⟩
  by_cases c : k = j
  · subst c; exact h.U l x2 (by omega)
  · by_cases d : l = j
    · subst d; exact low k x1 x2
    · exact h.O k l x1 x2 (by omega) c d

end Go.Proofs.YtalfeggddfpgeaaDoor
