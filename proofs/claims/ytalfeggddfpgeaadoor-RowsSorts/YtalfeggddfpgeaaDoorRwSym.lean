/- The library's merge in place, without Go. -/
import Derived.Test.YtalfeggddfpgeaaDoorRwRot
namespace Go.Proofs.YtalfeggddfpgeaaDoor
open Go.RowKit Go.Sort

/-- Two ranges in order, one behind the other; the places of the first were ahead of those of the second one. -/
structure Mrg (cf : Nat → Nat → Int) (P : List Nat) (a m b : Nat) : Prop where
  am : a < m
  mb : m < b
  bl : b ≤ P.length
  s1 : SortedOn cf P a m
  s2 : SortedOn cf P m b
  low : ∀ k l, a ≤ k → k < m → m ≤ l → l < b → nth P k < nth P l

/-- What stands at a has gone up to k. -/
def shU (f : Nat → Nat) (a k t : Nat) : Nat := if a ≤ t ∧ t < k then f (t + 1) else if t = k then f a else f t
theorem shU_zero (f : Nat → Nat) (a t : Nat) : shU f a a t = f t := by
  unfold shU; rw [if_neg (by omega)]; split
  · rename_i h; rw [h]
  · rfl
theorem shU_step {Q : List Nat} {f : Nat → Nat} {a k : Nat} (hak : a ≤ k) (hk : k + 1 < Q.length) (h : ∀ t, nth Q t = shU f a k t) (t : Nat) : nth (swp Q k (k + 1)) t = shU f a (k + 1) t := by
  rw [nth_swp (by omega) hk]
  simp only [h]
  unfold shU
  repeat' split
  all_goals first | (exfalso; omega) | rfl | (congr 1 <;> omega)
theorem up_sorted {cf : Nat → Nat → Int} (hc : Pre cf) {P P' : List Nat} {a b i : Nat} (h : Mrg cf P a (a + 1) b) (hi1 : a + 1 ≤ i) (hib : i ≤ b) (hlo : ∀ k, a + 1 ≤ k → k < i → cf (nth P k) (nth P a) < 0) (hhi : ∀ k, i ≤ k → k < b → ¬ cf (nth P k) (nth P a) < 0)
    (hp : ∀ t, nth P' t = shU (nth P) a (i - 1) t) : SortedOn cf P' a b := by
  have lo : ∀ k, a + 1 ≤ k → k < i → lt cf (nth P k) (nth P a) := fun k h1 h2 => .inl (hlo k h1 h2)
  have hi : ∀ k, i ≤ k → k < b → lt cf (nth P a) (nth P k) := fun k h1 h2 => lt_not hc (h.low a k (Nat.le_refl _) (by omega) (by omega) h2) (hhi k h1 h2)
  intro k l h1 h2 h3
  rw [hp k, hp l]
  unfold shU
  by_cases c1 : a ≤ k ∧ k < i - 1
  · rw [if_pos c1]
    by_cases c2 : a ≤ l ∧ l < i - 1
    · rw [if_pos c2]; exact h.s2 (k + 1) (l + 1) (by omega) (by omega) (by omega)
    · rw [if_neg c2]
      by_cases c3 : l = i - 1
      · rw [if_pos c3]; exact lo (k + 1) (by omega) (by omega)
      · rw [if_neg c3]; exact h.s2 (k + 1) l (by omega) (by omega) h3
  · rw [if_neg c1]
    by_cases c4 : k = i - 1
    · rw [if_pos c4, if_neg (by omega), if_neg (by omega)]; exact hi l (by omega) h3
    · rw [if_neg c4, if_neg (by omega), if_neg (by omega)]; exact h.s2 k l (by omega) h2 h3
/-- What stands at m has gone down to k. -/
def shD (f : Nat → Nat) (m k t : Nat) : Nat := if t = k then f m else if k < t ∧ t ≤ m then f (t - 1) else f t
theorem shD_zero (f : Nat → Nat) (m t : Nat) : shD f m m t = f t := by
  unfold shD; split
  · rename_i h; rw [h]
  · rw [if_neg (by omega)]
theorem shD_step {Q : List Nat} {f : Nat → Nat} {m k : Nat} (hkm : k + 1 ≤ m) (hm : m < Q.length) (h : ∀ t, nth Q t = shD f m (k + 1) t) (t : Nat) : nth (swp Q (k + 1) k) t = shD f m k t := by
  rw [nth_swp (by omega) (by omega)]
  simp only [h]
  unfold shD
  repeat' split
  all_goals first | (exfalso; omega) | rfl | (congr 1 <;> omega)
theorem down_sorted {cf : Nat → Nat → Int} (hc : Pre cf) {P P' : List Nat} {a m i : Nat} (h : Mrg cf P a m (m + 1)) (hi1 : a ≤ i) (him : i ≤ m) (hlo : ∀ k, a ≤ k → k < i → ¬ cf (nth P m) (nth P k) < 0) (hhi : ∀ k, i ≤ k → k < m → cf (nth P m) (nth P k) < 0)
    (hp : ∀ t, nth P' t = shD (nth P) m i t) : SortedOn cf P' a (m + 1) := by
  have lo : ∀ k, a ≤ k → k < i → lt cf (nth P k) (nth P m) := fun k h1 h2 => lt_not hc (h.low k m h1 (by omega) (Nat.le_refl _) (by omega)) (hlo k h1 h2)
  have hi : ∀ k, i ≤ k → k < m → lt cf (nth P m) (nth P k) := fun k h1 h2 => .inl (hhi k h1 h2)
  intro k l h1 h2 h3
  rw [hp k, hp l]
  unfold shD
  by_cases c1 : k = i
  · rw [if_pos c1, if_neg (by omega), if_pos (by omega)]; exact hi (l - 1) (by omega) (by omega)
  · rw [if_neg c1]
    by_cases c2 : i < k ∧ k ≤ m
    · rw [if_pos c2, if_neg (by omega), if_pos (by omega)]; exact h.s1 (k - 1) (l - 1) (by omega) (by omega) (by omega)
    · rw [if_neg c2]
      by_cases c3 : l = i
      · rw [if_pos c3]; exact lo k h1 (by omega)
      · rw [if_neg c3]
        by_cases c4 : i < l ∧ l ≤ m
        · rw [if_pos c4]; exact h.s1 k (l - 1) h1 (by omega) (by omega)
        · rw [if_neg c4]; exact h.s1 k l h1 h2 (by omega)

/-- Behind the rotation: each half is to be merged, or in order; the first half is ahead of the second one. -/
structure Halves (cf : Nat → Nat → Int) (P : List Nat) (a s mid e b : Nat) : Prop where
  h1 : a < s ∧ s < mid → Mrg cf P a s mid
  h1' : ¬ (a < s ∧ s < mid) → SortedOn cf P a mid
  h2 : mid < e ∧ e < b → Mrg cf P mid e b
  h2' : ¬ (mid < e ∧ e < b) → SortedOn cf P mid b
  x : ∀ k l, a ≤ k → k < mid → mid ≤ l → l < b → lt cf (nth P k) (nth P l)
theorem halves {cf : Nat → Nat → Int} {P Q : List Nat} {a m b s mid e : Nat} (h : Mrg cf P a m b) (hQl : Q.length = P.length) (has : a ≤ s) (hsm : s ≤ m) (hme : m ≤ e) (heb : e ≤ b) (hmid : e = mid + m - s) (hsmid : s ≤ mid)
    (hi : ∀ x y, a ≤ x → x < s → e ≤ y → y < b → lt cf (nth P x) (nth P y)) (hii : ∀ y x, m ≤ y → y < e → s ≤ x → x < m → lt cf (nth P y) (nth P x))
    (hr : ∀ k, nth Q k = rotR (nth P) s m e k) : Halves cf Q a s mid e b := by
  have em : s + (e - m) = mid := by omega
  have r1 : ∀ k, k < s → nth Q k = nth P k := fun k hk => by rw [hr]; unfold rotR; rw [if_neg (by omega), if_neg (by omega)]
  have r2 : ∀ k, s ≤ k → k < mid → nth Q k = nth P (m + (k - s)) := fun k h1 h2 => by rw [hr]; unfold rotR; rw [if_pos (by omega)]
  have r3 : ∀ k, mid ≤ k → k < e → nth Q k = nth P (s + (k - mid)) := fun k h1 h2 => by rw [hr]; unfold rotR; rw [if_neg (by omega), if_pos (by omega), em]
  have r4 : ∀ k, e ≤ k → nth Q k = nth P k := fun k h1 => by rw [hr]; unfold rotR; rw [if_neg (by omega), if_neg (by omega)]
  have hbl := h.bl
  have sA : SortedOn cf Q a s := fun k l h1 h2 h3 => by rw [r1 k (by omega), r1 l h3]; exact h.s1 k l h1 h2 (by omega)
  have sB : SortedOn cf Q s mid := fun k l h1 h2 h3 => by rw [r2 k h1 (by omega), r2 l (by omega) h3]; exact h.s2 _ _ (by omega) (by omega) (by omega)
  have sC : SortedOn cf Q mid e := fun k l h1 h2 h3 => by rw [r3 k h1 (by omega), r3 l (by omega) h3]; exact h.s1 _ _ (by omega) (by omega) (by omega)
  have sD : SortedOn cf Q e b := fun k l h1 h2 h3 => by rw [r4 k h1, r4 l (by omega)]; exact h.s2 k l (by omega) h2 h3
  refine ⟨fun c => ⟨c.1, c.2, by omega, sA, sB, fun k l h1 h2 h3 h4 => ?_⟩, fun c => ?_, fun c => ⟨c.1, c.2, by omega, sC, sD, fun k l h1 h2 h3 h4 => ?_⟩, fun c => ?_, fun k l h1 h2 h3 h4 => ?_⟩
  · rw [r1 k h2, r2 l h3 h4]; exact h.low _ _ h1 (by omega) (by omega) (by omega)
  · by_cases d : s = a
    · rw [← d]; exact sB
    · have : s = mid := by omega
      rw [← this]; exact sA
  · rw [r3 k h1 h2, r4 l h3]; exact h.low _ _ (by omega) (by omega) (by omega) h4
  · by_cases d : e = b
    · rw [← d]; exact sC
    · have : e = mid := by omega
      rw [← this]; exact sD
  · by_cases ck : k < s
    · rw [r1 k ck]
      by_cases cl : l < e
      · rw [r3 l h3 cl]; exact h.s1 _ _ h1 (by omega) (by omega)
      · rw [r4 l (by omega)]; exact hi k l h1 ck (by omega) h4
    · rw [r2 k (by omega) h2]
      by_cases cl : l < e
      · rw [r3 l h3 cl]; exact hii _ _ (by omega) (by omega) (by omega) (by omega)
      · rw [r4 l (by omega)]; exact h.s2 _ _ (by omega) (by omega) h4
/-- What the search tells. -/
theorem search_end {cf : Nat → Nat → Int} (hc : Pre cf) {P : List Nat} {a m b mid s r0 s0 : Nat} (h : Mrg cf P a m b) (hm1 : 2 * mid ≤ a + b) (hm2 : a + b < 2 * mid + 2) (hs0 : (mid < m ∧ s0 = mid + m - b ∧ r0 = mid) ∨ (m ≤ mid ∧ s0 = a ∧ r0 = m)) (h1 : s0 ≤ s) (h2 : s ≤ r0)
    (hlo : ∀ c, s0 ≤ c → c < s → ¬ cf (nth P (mid + m - 1 - c)) (nth P c) < 0) (hhi : ∀ c, s ≤ c → c < r0 → cf (nth P (mid + m - 1 - c)) (nth P c) < 0) :
    a ≤ s ∧ s ≤ m ∧ m ≤ mid + m - s ∧ mid + m - s ≤ b ∧ s ≤ mid ∧ (∀ x y, a ≤ x → x < s → mid + m - s ≤ y → y < b → lt cf (nth P x) (nth P y)) ∧ (∀ y x, m ≤ y → y < mid + m - s → s ≤ x → x < m → lt cf (nth P y) (nth P x)) := by
  have am := h.am
  have mb := h.mb
  have b1 : a ≤ s := by omega
  have b2 : s ≤ m := by omega
  have b3 : s ≤ mid := by omega
  have b4 : mid + m - s ≤ b := by omega
  refine ⟨b1, b2, by omega, b4, b3, fun x y x1 x2 y1 y2 => ?_, fun y x y1 y2 x1 x2 => ?_⟩
  · have hs : s0 < s := by omega
    have hl := hlo (s - 1) (by omega) (by omega)
    rw [show mid + m - 1 - (s - 1) = mid + m - s by omega] at hl
    have k0 : lt cf (nth P (s - 1)) (nth P (mid + m - s)) := lt_not hc (h.low _ _ (by omega) (by omega) (by omega) (by omega)) hl
    have k1 : lt cf (nth P x) (nth P (mid + m - s)) := by
      by_cases c : x = s - 1
      · rw [c]; exact k0
      · exact lt_trans' hc (h.s1 x (s - 1) x1 (by omega) (by omega)) k0
    by_cases c : y = mid + m - s
    · rw [c]; exact k1
    · exact lt_trans' hc k1 (h.s2 _ y (by omega) (by omega) y2)
  · have hs : s < r0 := by omega
    have hl := hhi s (Nat.le_refl _) hs
    have k0 : lt cf (nth P (mid + m - 1 - s)) (nth P s) := .inl hl
    have k1 : lt cf (nth P y) (nth P s) := by
      by_cases c : y = mid + m - 1 - s
      · rw [c]; exact k0
      · exact lt_trans' hc (h.s2 y _ y1 (by omega) (by omega)) k0
    by_cases c : x = s
    · rw [c]; exact k1
    · exact lt_trans' hc k1 (h.s1 s x b1 (by omega) x2)
/-- Within a range that was put in order stand the same values. -/
theorem same_in {P Q : List Nat} {a b : Nat} (hp : Q.Perm P) (hn : P.Nodup) (hb : b ≤ P.length) (ho : SameOut Q P a b) {k : Nat} (h1 : a ≤ k) (h2 : k < b) : ∃ k', a ≤ k' ∧ k' < b ∧ nth Q k = nth P k' := by
  have hl := hp.length_eq
  have hkQ : k < Q.length := by omega
  have hm : Q[k] ∈ P := hp.mem_iff.1 (List.getElem_mem hkQ)
  obtain ⟨k', hk', e⟩ := List.mem_iff_getElem.1 hm
  have e2 : nth Q k = nth P k' := by rw [nth_get hkQ, nth_get hk', e]
  by_cases c : a ≤ k' ∧ k' < b
  · exact ⟨k', c.1, c.2, e2⟩
  · exfalso
    have h3 : nth Q k' = nth P k' := ho k' (by omega)
    have hQn : Q.Nodup := hp.symm.nodup hn
    have h4 : nth Q k = nth Q k' := e2.trans h3.symm
    rw [nth_get hkQ, nth_get (show k' < Q.length by omega)] at h4
    have := (List.getElem_inj hQn).1 h4
    omega
theorem Mrg.out {cf : Nat → Nat → Int} {P Q : List Nat} {a m b a' b' : Nat} (h : Mrg cf P a m b) (hl : Q.length = P.length) (ho : SameOut Q P a' b') (hd : b ≤ a' ∨ b' ≤ a) : Mrg cf Q a m b := by
  have e : ∀ k, a ≤ k → k < b → nth Q k = nth P k := fun k h1 h2 => ho k (by omega)
  have am := h.am
  have mb := h.mb
  exact ⟨am, mb, by rw [hl]; exact h.bl, fun k l h1 h2 h3 => by rw [e k h1 (by omega), e l (by omega) (by omega)]; exact h.s1 k l h1 h2 h3, fun k l h1 h2 h3 => by rw [e k (by omega) (by omega), e l (by omega) h3]; exact h.s2 k l h1 h2 h3,
    fun k l h1 h2 h3 h4 => by rw [e k h1 (by omega), e l (by omega) h4]; exact h.low k l h1 h2 h3 h4⟩
theorem sorted_out {cf : Nat → Nat → Int} {P Q : List Nat} {a b a' b' : Nat} (h : SortedOn cf P a b) (ho : SameOut Q P a' b') (hd : b ≤ a' ∨ b' ≤ a) : SortedOn cf Q a b := fun k l h1 h2 h3 => by
  rw [ho k (by omega), ho l (by omega)]; exact h k l h1 h2 h3
/-- Two halves in order, the first ahead of the second one. -/
theorem sorted_join {cf : Nat → Nat → Int} {P : List Nat} {a m b : Nat} (h1 : SortedOn cf P a m) (h2 : SortedOn cf P m b) (x : ∀ k l, a ≤ k → k < m → m ≤ l → l < b → lt cf (nth P k) (nth P l)) : SortedOn cf P a b := fun k l h3 h4 h5 => by
  by_cases c : l < m
  · exact h1 k l h3 h4 c
  · by_cases d : m ≤ k
    · exact h2 k l d h4 h5
    · exact x k l h3 (by omega) (by omega) h5

end Go.Proofs.YtalfeggddfpgeaaDoor
