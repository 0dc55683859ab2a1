/- Sets of levels as bits of numbers: what they say when nothing changes any more, and that they can't grow for ever. -/
import Derived.Test.YtobbomdknahicaaLatSpec
namespace Go.Proofs.Ytobbomdknahicaa

theorem Reach.indL {E : List (Nat × Nat)} {b : Nat} (P : Nat → Prop) (h0 : P b) (hs : ∀ x y, P y → (x, y) ∈ E → P x) {a : Nat} (h : Reach E a b) : P a := by
  have hr : Reach (E.map fun e => (e.2, e.1)) b a := h.rev fun e he => List.mem_map.2 ⟨e, he, rfl⟩
  refine hr.ind P h0 fun x y hx hm => ?_
  obtain ⟨e, he, h1⟩ := List.mem_map.1 hm
  simp only [Prod.mk.injEq] at h1
  obtain ⟨rfl, rfl⟩ := h1
  exact hs e.1 e.2 hx he
/-- Sets that hold themselves, and with each edge what stands above its upper end: they hold all that is above. -/
theorem mask_upper {E : List (Nat × Nat)} {n : Nat} {M : Nat → Nat} (h0 : ∀ a, a < n → (M a).testBit a = true) (hs : ∀ x y, (x, y) ∈ E → ∀ b, (M y).testBit b = true → (M x).testBit b = true)
    {a b : Nat} (hb : b < n) (h : Reach E a b) : (M a).testBit b = true :=
  h.indL (fun x => (M x).testBit b = true) (h0 b hb) fun x y hy he => hs x y he b hy
/-- The same, where the lower end leads to the upper one. -/
theorem mask_right {E : List (Nat × Nat)} {m a : Nat} (h0 : m.testBit a = true) (hs : ∀ x y, (x, y) ∈ E → m.testBit x = true → m.testBit y = true) {b : Nat} (h : Reach E a b) : m.testBit b = true :=
  h.ind (fun x => m.testBit x = true) h0 fun x y hx he => hs x y he hx
theorem testBit_one_shl (a b : Nat) : (1 <<< a : Nat).testBit b = decide (a = b) := by
  rw [Nat.one_shiftLeft, Nat.testBit_two_pow]
theorem testBit_two_pow' (a b : Nat) : (2 ^ a : Nat).testBit b = decide (a = b) := Nat.testBit_two_pow
/-- How many bits are set. -/
def bitsOf (n m : Nat) : Nat := (List.range n).countP fun b => m.testBit b
def bitsAll (n : Nat) (M : Nat → Nat) : Nat := ((List.range n).map fun a => bitsOf n (M a)).sum
theorem bitsOf_le (n m : Nat) : bitsOf n m ≤ n := by
  have := List.countP_le_length (p := fun b => m.testBit b) (l := List.range n)
  simpa [bitsOf] using this
theorem bitsOf_lt {n m m' : Nat} (hs : ∀ b, m.testBit b = true → m'.testBit b = true) (hm' : ∀ b, m'.testBit b = true → b < n) (hne : m ≠ m') : bitsOf n m < bitsOf n m' := by
  refine countP_lt (fun x _ hx => hs x hx) ?_
  refine Classical.byContradiction fun hno => hne ?_
  refine Nat.eq_of_testBit_eq fun b => ?_
  cases h1 : m.testBit b with
  | true => rw [hs b h1]
  | false =>
    cases h2 : m'.testBit b with
    | false => rfl
    | true => exact absurd ⟨b, List.mem_range.2 (hm' b h2), h1, h2⟩ hno
theorem sum_map_lt {l : List Nat} {f g : Nat → Nat} (hle : ∀ x ∈ l, f x ≤ g x) (hlt : ∃ x ∈ l, f x < g x) : (l.map f).sum < (l.map g).sum := by
  induction l with
  | nil => obtain ⟨x, hx, _⟩ := hlt; cases hx
  | cons y l ih =>
    have hy := hle y (List.mem_cons_self ..)
    have hrest : (l.map f).sum ≤ (l.map g).sum := by
      clear ih hlt hy
      induction l with
      | nil => exact Nat.le_refl _
      | cons z l ih2 =>
        have h1 := hle z (List.mem_cons_of_mem _ (List.mem_cons_self ..))
        have h2 := ih2 fun x hx => by
          rcases List.mem_cons.1 hx with rfl | hx
          · exact hle x (List.mem_cons_self ..)
          · exact hle x (List.mem_cons_of_mem _ (List.mem_cons_of_mem _ hx))
        simp only [List.map_cons, List.sum_cons]
        omega
    obtain ⟨x, hx, hxl⟩ := hlt
    simp only [List.map_cons, List.sum_cons]
    rcases List.mem_cons.1 hx with rfl | hx
    · omega
    · have := ih (fun z hz => hle z (List.mem_cons_of_mem _ hz)) ⟨x, hx, hxl⟩
      omega
theorem bitsAll_le (n : Nat) (M : Nat → Nat) : bitsAll n M ≤ n * n := by
  unfold bitsAll
  have : ∀ l : List Nat, (l.map fun a => bitsOf n (M a)).sum ≤ l.length * n := by
    intro l
    induction l with
    | nil => simp
    | cons y l ih =>
      have := bitsOf_le n (M y)
      simp only [List.map_cons, List.sum_cons, List.length_cons, Nat.add_mul, Nat.one_mul]
      omega
  simpa using this (List.range n)
/-- One set grew: there are more bits. -/
theorem bitsAll_lt {n x : Nat} {M M' : Nat → Nat} (hx : x < n) (hother : ∀ a, a ≠ x → M' a = M a) (hs : ∀ b, (M x).testBit b = true → (M' x).testBit b = true) (hm' : ∀ b, (M' x).testBit b = true → b < n) (hne : M x ≠ M' x) : bitsAll n M < bitsAll n M' := by
  refine sum_map_lt (fun a _ => ?_) ⟨x, List.mem_range.2 hx, bitsOf_lt hs hm' hne⟩
  by_cases e : a = x
  · subst e; exact Nat.le_of_lt (bitsOf_lt hs hm' hne)
  · rw [hother a e]; exact Nat.le_refl _
theorem lt_of_bits {m n : Nat} (h : ∀ b, m.testBit b = true → b < n) : m < 2 ^ n := by
  refine Nat.lt_pow_two_of_testBit m fun i hi => ?_
  cases c : m.testBit i with
  | false => rfl
  | true => have := h i c; omega

end Go.Proofs.Ytobbomdknahicaa
