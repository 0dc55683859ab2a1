/- Levels and edges: what stands below what, the least above two and the greatest below two, and which levels are a lattice. -/
import Derived.ProofKit
namespace Go.Proofs.Ytobbomdknahicaa

/-- What is reached from a level by at most so many edges. -/
def reach (E : List (Nat × Nat)) (a : Nat) : Nat → Nat → Bool
  | 0, b => a == b
  | k + 1, b => reach E a k b || E.any fun e => reach E a k e.1 && e.2 == b
def Reach (E : List (Nat × Nat)) (a b : Nat) : Prop := ∃ k, reach E a k b = true

theorem reach_succ {E : List (Nat × Nat)} {a k b : Nat} : reach E a (k + 1) b = true ↔ reach E a k b = true ∨ ∃ e ∈ E, reach E a k e.1 = true ∧ e.2 = b := by
  simp [reach]
theorem reach_add {E : List (Nat × Nat)} {a k b : Nat} (h : reach E a k b = true) : ∀ j, reach E a (k + j) b = true
  | 0 => h
  | j + 1 => reach_succ.2 (.inl (reach_add h j))
theorem reach_le {E : List (Nat × Nat)} {a k m b : Nat} (h : reach E a k b = true) (hm : k ≤ m) : reach E a m b = true := by
  have := reach_add h (m - k)
  rwa [Nat.add_sub_cancel' hm] at this
theorem Reach.refl (E : List (Nat × Nat)) (a : Nat) : Reach E a a := ⟨0, by simp [reach]⟩
theorem Reach.step {E : List (Nat × Nat)} {a x y : Nat} (h : Reach E a x) (he : (x, y) ∈ E) : Reach E a y := by
  obtain ⟨k, hk⟩ := h
  exact ⟨k + 1, reach_succ.2 (.inr ⟨(x, y), he, hk, rfl⟩)⟩
theorem Reach.ind {E : List (Nat × Nat)} {a : Nat} (P : Nat → Prop) (h0 : P a) (hs : ∀ x y, P x → (x, y) ∈ E → P y) {b : Nat} (h : Reach E a b) : P b := by
  obtain ⟨k, hk⟩ := h
  induction k generalizing b with
  | zero =>
    have : a = b := by simpa [reach] using hk
    rw [← this]; exact h0
  | succ k ih =>
    rcases reach_succ.1 hk with h | ⟨e, he, h1, h2⟩
    · exact ih h
    · rw [← h2]; exact hs e.1 e.2 (ih h1) he
theorem Reach.trans {E : List (Nat × Nat)} {a b c : Nat} (h : Reach E a b) (g : Reach E b c) : Reach E a c := g.ind (Reach E a) h fun _ _ hx he => hx.step he
theorem Reach.sub {E F : List (Nat × Nat)} (hs : ∀ e ∈ E, Reach F e.1 e.2) {a b : Nat} (h : Reach E a b) : Reach F a b :=
  h.ind (Reach F a) (Reach.refl F a) fun x y hx he => hx.trans (hs (x, y) he)
theorem Reach.edge {E : List (Nat × Nat)} {e : Nat × Nat} (he : e ∈ E) : Reach E e.1 e.2 := (Reach.refl E e.1).step he
theorem Reach.rev {E F : List (Nat × Nat)} (hs : ∀ e ∈ E, (e.2, e.1) ∈ F) {a b : Nat} (h : Reach E a b) : Reach F b a :=
  h.ind (fun x => Reach F x a) (Reach.refl F a) fun x y hx he => ((Reach.refl F y).step (hs (x, y) he)).trans hx
theorem Reach.lt {E : List (Nat × Nat)} {n : Nat} (hE : ∀ e ∈ E, e.1 < n ∧ e.2 < n) {a b : Nat} (ha : a < n) (h : Reach E a b) : b < n :=
  h.ind (· < n) ha fun _ _ _ he => (hE _ he).2

theorem countP_lt {α : Type} {p q : α → Bool} : ∀ {l : List α}, (∀ x ∈ l, p x = true → q x = true) → (∃ x ∈ l, p x = false ∧ q x = true) → l.countP p < l.countP q
  | [], _, h => by obtain ⟨x, hx, _⟩ := h; cases hx
  | y :: l, hm, h => by
    rw [List.countP_cons, List.countP_cons]
    obtain ⟨x, hx, h1, h2⟩ := h
    have hle : l.countP p ≤ l.countP q := List.countP_mono_left fun z hz => hm z (List.mem_cons_of_mem _ hz)
    rcases List.mem_cons.1 hx with rfl | hx
    · simp [h1, h2]; omega
    · have := countP_lt (fun z hz => hm z (List.mem_cons_of_mem _ hz)) ⟨x, hx, h1, h2⟩
      have hy := hm y (List.mem_cons_self ..)
      by_cases hp : p y = true
      · simp [hp, hy hp]; omega
      · simp [hp]; split <;> omega

theorem reach_still {E : List (Nat × Nat)} {a k : Nat} (h : ∀ b, reach E a (k + 1) b = reach E a k b) : ∀ m b, reach E a (k + m) b = reach E a k b
  | 0, _ => rfl
  | m + 1, b => by
    have ih := reach_still h m
    have : reach E a (k + m + 1) b = reach E a (k + 1) b := by
      unfold reach
      simp only [ih]
    rw [← Nat.add_assoc, this, h]
theorem reach_count {E : List (Nat × Nat)} {n : Nat} (hE : ∀ e ∈ E, e.1 < n ∧ e.2 < n) {a : Nat} (ha : a < n) :
    ∀ k, k + 1 ≤ (List.range n).countP (reach E a k) ∨ ∃ j, j < k ∧ ∀ b, reach E a (j + 1) b = reach E a j b
  | 0 => by
    refine .inl (List.countP_pos_iff.2 ⟨a, List.mem_range.2 ha, by simp [reach]⟩)
  | k + 1 => by
    rcases reach_count hE ha k with h | ⟨j, hj, hs⟩
    · by_cases hst : ∀ b, reach E a (k + 1) b = reach E a k b
      · exact .inr ⟨k, by omega, hst⟩
      · refine .inl ?_
        have : ∃ b, ¬ reach E a (k + 1) b = reach E a k b := Classical.not_forall.1 hst
        obtain ⟨b, hb⟩ := this
        have h1 : reach E a k b = false := by
          by_cases c : reach E a k b = true
          · rw [c, reach_le c (Nat.le_succ k)] at hb; exact absurd rfl hb
          · simpa using c
        have h2 : reach E a (k + 1) b = true := by
          rw [h1] at hb; simpa using hb
        have hbn : b < n := Reach.lt hE ha ⟨_, h2⟩
        have := countP_lt (l := List.range n) (p := reach E a k) (q := reach E a (k + 1)) (fun x _ hx => reach_le hx (Nat.le_succ k)) ⟨b, List.mem_range.2 hbn, h1, h2⟩
        omega
    · exact .inr ⟨j, by omega, hs⟩
theorem reach_full {E : List (Nat × Nat)} {n : Nat} (hE : ∀ e ∈ E, e.1 < n ∧ e.2 < n) {a b : Nat} (ha : a < n) : reach E a n b = true ↔ Reach E a b := by
  refine ⟨fun h => ⟨n, h⟩, fun ⟨k, hk⟩ => ?_⟩
  rcases reach_count hE ha n with h | ⟨j, hj, hs⟩
  · have := List.countP_le_length (p := reach E a n) (l := List.range n)
    simp at this; omega
  · have h1 := reach_still hs (n - j) b
    have h2 := reach_still hs (k + n - j) b
    rw [Nat.add_sub_cancel' (by omega)] at h1
    rw [Nat.add_sub_cancel' (by omega)] at h2
    rw [h1, ← h2]
    exact reach_le hk (by omega)

/-- Is a number a level? -/
def isI (n : Nat) (a : Int) : Bool := decide (0 ≤ a) && decide (a < n)
/-- Which stands below which. -/
def leI (n : Nat) (E : List (Nat × Nat)) (a b : Int) : Bool := isI n a && isI n b && reach E a.toNat n b.toNat
/-- The first number with a property, or -1. -/
def firstI (n : Nat) (p : Nat → Bool) : Int := match (List.range n).find? p with
  | some c => (c : Int)
  | none => -1
def leastB (le : Int → Int → Bool) (n : Nat) (a b c : Int) : Bool := le a c && le b c && (List.range n).all fun d => !(le a (d : Int) && le b (d : Int) && !le c (d : Int))
def joinI (le : Int → Int → Bool) (n : Nat) (a b : Int) : Int := firstI n fun c => leastB le n a b (c : Int)
def botI (le : Int → Int → Bool) (n : Nat) : Int := firstI n fun a => (List.range n).all fun b => le (a : Int) (b : Int)
def flipI (le : Int → Int → Bool) : Int → Int → Bool := fun a b => le b a
def meetI (le : Int → Int → Bool) (n : Nat) (a b : Int) : Int := joinI (flipI le) n a b
def topI (le : Int → Int → Bool) (n : Nat) : Int := botI (flipI le) n
def aboveI (le : Int → Int → Bool) (n : Nat) (a : Int) : List Int := ((List.range n).map Int.ofNat).filter fun b => le a b
/-- Is a pair of levels as it should be in a lattice? -/
def pairOk (le : Int → Int → Bool) (n : Nat) (a b : Int) : Bool := !(a != b && le a b && le b a) && decide (0 ≤ joinI le n a b) && decide (0 ≤ meetI le n a b)
def latOk (le : Int → Int → Bool) (n : Nat) : Bool := (List.range n).all fun a => (List.range n).all fun b => pairOk le n (a : Int) (b : Int)

theorem firstI_some {n : Nat} {p : Nat → Bool} {c : Nat} (hc : c < n) (hp : p c = true) (hb : ∀ d, d < c → p d = false) : firstI n p = (c : Int) := by
  have : (List.range n).find? p = some c := List.find?_range_eq_some.2 ⟨hp, List.mem_range.2 hc, fun j hj => by simp [hb j hj]⟩
  unfold firstI; rw [this]
theorem firstI_none {n : Nat} {p : Nat → Bool} (h : ∀ c, c < n → p c = false) : firstI n p = -1 := by
  have : (List.range n).find? p = none := List.find?_eq_none.2 fun x hx => by simp [h x (List.mem_range.1 hx)]
  unfold firstI; rw [this]
theorem firstI_cases (n : Nat) (p : Nat → Bool) : (∃ c, c < n ∧ p c = true ∧ firstI n p = (c : Int)) ∨ ((∀ c, c < n → p c = false) ∧ firstI n p = -1) := by
  cases h : (List.range n).find? p with
  | none =>
    refine .inr ⟨fun c hc => ?_, by unfold firstI; rw [h]⟩
    have := List.find?_eq_none.1 h c (List.mem_range.2 hc)
    simpa using this
  | some c =>
    obtain ⟨h1, h2, _⟩ := List.find?_range_eq_some.1 h
    exact .inl ⟨c, List.mem_range.1 h2, h1, by unfold firstI; rw [h]⟩
theorem firstI_congr {n : Nat} {p q : Nat → Bool} (h : ∀ c, c < n → p c = q c) : firstI n p = firstI n q := by
  rcases firstI_cases n p with ⟨c, hc, hp, _⟩ | ⟨h1, h2⟩
  · unfold firstI
    have : (List.range n).find? p = (List.range n).find? q := by
      have hm : ∀ l : List Nat, (∀ x ∈ l, p x = q x) → l.find? p = l.find? q := by
        intro l
        induction l with
        | nil => intro _; rfl
        | cons a l ih =>
          intro hl
          rw [List.find?_cons, List.find?_cons, hl a (List.mem_cons_self ..), ih fun x hx => hl x (List.mem_cons_of_mem _ hx)]
      exact hm _ fun x hx => h x (List.mem_range.1 hx)
    rw [this]
  · rw [h2, firstI_none fun c hc => by rw [← h c hc]; exact h1 c hc]

/-- A row of bools is the answer at each place. -/
theorem isI_iff {n : Nat} {a : Int} : isI n a = true ↔ 0 ≤ a ∧ a < n := by simp [isI]
theorem isI_cast {n k : Nat} : isI n (k : Int) = decide (k < n) := by simp [isI]

/-- An order with least ones above and greatest ones below. -/
structure IsLat (le : Int → Int → Bool) (n : Nat) : Prop where
  dom : ∀ a b, le a b = true → isI n a = true ∧ isI n b = true
  refl : ∀ a, isI n a = true → le a a = true
  trans : ∀ a b c, le a b = true → le b c = true → le a c = true
  anti : ∀ a b, le a b = true → le b a = true → a = b
  join : ∀ a b, isI n a = true → isI n b = true → 0 ≤ joinI le n a b
  meet : ∀ a b, isI n a = true → isI n b = true → 0 ≤ meetI le n a b

theorem nat_of_isI {n : Nat} {a : Int} (h : isI n a = true) : ∃ k : Nat, k < n ∧ a = (k : Int) := by
  obtain ⟨h1, h2⟩ := isI_iff.1 h
  exact ⟨a.toNat, by omega, by omega⟩

theorem leastB_iff {le : Int → Int → Bool} {n : Nat} {a b c : Int} (dom : ∀ a b, le a b = true → isI n a = true ∧ isI n b = true) :
    leastB le n a b c = true ↔ le a c = true ∧ le b c = true ∧ ∀ d, le a d = true → le b d = true → le c d = true := by
  unfold leastB
  simp only [Bool.and_eq_true, List.all_eq_true, and_assoc]
  refine and_congr_right fun _ => and_congr_right fun _ => ⟨fun h d h1 h2 => ?_, fun h d _ => ?_⟩
  · obtain ⟨k, hk, rfl⟩ := nat_of_isI (dom a d h1).2
    have := h k (List.mem_range.2 hk)
    simpa [h1, h2] using this
  · by_cases h1 : le a (d : Int) = true
    · by_cases h2 : le b (d : Int) = true
      · simp [h1, h2, h d h1 h2]
      · simp [h2]
    · simp [h1]

theorem IsLat.flip {le : Int → Int → Bool} {n : Nat} (h : IsLat le n) : IsLat (flipI le) n where
  dom a b g := ⟨(h.dom b a g).2, (h.dom b a g).1⟩
  refl a g := h.refl a g
  trans a b c g1 g2 := h.trans c b a g2 g1
  anti a b g1 g2 := h.anti a b g2 g1
  join a b g1 g2 := h.meet a b g1 g2
  meet a b g1 g2 := h.join a b g1 g2

section
variable {le : Int → Int → Bool} {n : Nat} (h : IsLat le n)
include h
theorem IsLat.join_spec {a b : Int} (ha : isI n a = true) (hb : isI n b = true) : isI n (joinI le n a b) = true ∧ le a (joinI le n a b) = true ∧ le b (joinI le n a b) = true ∧ ∀ d, le a d = true → le b d = true → le (joinI le n a b) d = true := by
  have h0 := h.join a b ha hb
  rcases firstI_cases n (fun c => leastB le n a b (c : Int)) with ⟨c, hc, hp, he⟩ | ⟨_, he⟩
  · have hj : joinI le n a b = (c : Int) := he
    rw [hj, isI_cast]
    exact ⟨by simpa using hc, (leastB_iff h.dom).1 hp⟩
  · have hj : joinI le n a b = -1 := he
    omega
theorem IsLat.join_unique {a b c : Int} (h1 : le a c = true) (h2 : le b c = true) (h3 : ∀ d, le a d = true → le b d = true → le c d = true) : joinI le n a b = c := by
  obtain ⟨_, g1, g2, g3⟩ := h.join_spec (h.dom a c h1).1 (h.dom b c h2).1
  exact h.anti _ _ (g3 c h1 h2) (h3 _ g1 g2)
theorem IsLat.join_comm {a b : Int} (ha : isI n a = true) (hb : isI n b = true) : joinI le n a b = joinI le n b a := by
  obtain ⟨_, g1, g2, g3⟩ := h.join_spec hb ha
  exact h.join_unique g2 g1 fun d h1 h2 => g3 d h2 h1
theorem IsLat.join_self {a : Int} (ha : isI n a = true) : joinI le n a a = a := h.join_unique (h.refl a ha) (h.refl a ha) fun _ g _ => g
theorem IsLat.join_assoc {a b c : Int} (ha : isI n a = true) (hb : isI n b = true) (hc : isI n c = true) : joinI le n (joinI le n a b) c = joinI le n a (joinI le n b c) := by
  obtain ⟨i1, g1, g2, g3⟩ := h.join_spec ha hb
  obtain ⟨i2, k1, k2, k3⟩ := h.join_spec hb hc
  obtain ⟨i3, m1, m2, m3⟩ := h.join_spec ha i2
  refine h.join_unique (g3 _ m1 (h.trans _ _ _ k1 m2)) (h.trans _ _ _ k2 m2) fun d h1 h2 => ?_
  exact m3 d (h.trans _ _ _ g1 h1) (k3 d (h.trans _ _ _ g2 h1) h2)
theorem IsLat.le_join {a b : Int} (ha : isI n a = true) (hb : isI n b = true) : le a b = (joinI le n a b == b) := by
  obtain ⟨_, g1, g2, g3⟩ := h.join_spec ha hb
  by_cases c : le a b = true
  · rw [c, h.join_unique c (h.refl b hb) fun _ _ g => g]; simp
  · have : joinI le n a b ≠ b := fun e => c (by rw [e] at g1; exact g1)
    simp [c, this]
theorem IsLat.join_meet {a b : Int} (ha : isI n a = true) (hb : isI n b = true) : joinI le n a (meetI le n a b) = a := by
  obtain ⟨_, g1, g2, g3⟩ := h.flip.join_spec ha hb
  exact h.join_unique (h.refl a ha) g1 fun _ g _ => g
theorem IsLat.bot_spec (hn : 0 < n) : isI n (botI le n) = true ∧ ∀ a, isI n a = true → le (botI le n) a = true := by
  have hex : ∀ k, k ≤ n → 0 < k → ∃ m, isI n m = true ∧ ∀ j : Nat, j < k → le m (j : Int) = true := by
    intro k
    induction k with
    | zero => intro _ h0; omega
    | succ k ih =>
      intro hk _
      have hkI : isI n (k : Int) = true := by rw [isI_cast]; exact decide_eq_true hk
      by_cases k0 : k = 0
      · subst k0
        exact ⟨((0 : Nat) : Int), hkI, fun j hj => by
          have : j = 0 := by omega
          subst this; exact h.refl _ hkI⟩
      · obtain ⟨m, hm, hj⟩ := ih (by omega) (by omega)
        obtain ⟨i1, g1, g2, _⟩ := h.flip.join_spec hm hkI
        refine ⟨_, i1, fun j hjk => ?_⟩
        by_cases e : j = k
        · subst e; exact g2
        · exact h.trans _ _ _ g1 (hj j (by omega))
  obtain ⟨m, hm, hj⟩ := hex n (Nat.le_refl n) hn
  obtain ⟨k, hk, rfl⟩ := nat_of_isI hm
  rcases firstI_cases n (fun a => (List.range n).all fun b => le (a : Int) (b : Int)) with ⟨c, hc, hp, he⟩ | ⟨hno, _⟩
  · have hb : botI le n = (c : Int) := he
    rw [hb, isI_cast]
    refine ⟨by simpa using hc, fun a ha => ?_⟩
    obtain ⟨x, hx, rfl⟩ := nat_of_isI ha
    exact List.all_eq_true.1 hp x (List.mem_range.2 hx)
  · have h1 : ((List.range n).all fun b => le (k : Int) (b : Int)) = true := List.all_eq_true.2 fun x hx => hj x (List.mem_range.1 hx)
    have h2 := hno k hk
    rw [h1] at h2; cases h2
end

theorem leI_iff {n : Nat} {E : List (Nat × Nat)} (hE : ∀ e ∈ E, e.1 < n ∧ e.2 < n) {a b : Nat} (ha : a < n) (hb : b < n) : leI n E (a : Int) (b : Int) = true ↔ Reach E a b := by
  unfold leI
  rw [isI_cast, isI_cast]
  simp [ha, hb, reach_full hE ha]
theorem leI_dom {n : Nat} {E : List (Nat × Nat)} (a b : Int) (h : leI n E a b = true) : isI n a = true ∧ isI n b = true := by
  unfold leI at h
  simp only [Bool.and_eq_true] at h
  exact h.1
theorem leI_refl {n : Nat} {E : List (Nat × Nat)} (hE : ∀ e ∈ E, e.1 < n ∧ e.2 < n) (a : Int) (h : isI n a = true) : leI n E a a = true := by
  obtain ⟨k, hk, rfl⟩ := nat_of_isI h
  exact (leI_iff hE hk hk).2 (Reach.refl E k)
theorem leI_trans {n : Nat} {E : List (Nat × Nat)} (hE : ∀ e ∈ E, e.1 < n ∧ e.2 < n) (a b c : Int) (h : leI n E a b = true) (g : leI n E b c = true) : leI n E a c = true := by
  obtain ⟨ia, ib⟩ := leI_dom a b h
  obtain ⟨_, ic⟩ := leI_dom b c g
  obtain ⟨x, hx, rfl⟩ := nat_of_isI ia
  obtain ⟨y, hy, rfl⟩ := nat_of_isI ib
  obtain ⟨z, hz, rfl⟩ := nat_of_isI ic
  exact (leI_iff hE hx hz).2 (((leI_iff hE hx hy).1 h).trans ((leI_iff hE hy hz).1 g))
theorem latOk_pair {le : Int → Int → Bool} {n : Nat} : latOk le n = true ↔ ∀ a b : Nat, a < n → b < n → pairOk le n (a : Int) (b : Int) = true := by
  unfold latOk
  simp only [List.all_eq_true, List.mem_range]
  exact ⟨fun h a b ha hb => h a ha b hb, fun h a ha b hb => h a b ha hb⟩
theorem isLat_of {n : Nat} {E : List (Nat × Nat)} (hE : ∀ e ∈ E, e.1 < n ∧ e.2 < n) (h : latOk (leI n E) n = true) : IsLat (leI n E) n := by
  have hp := latOk_pair.1 h
  refine ⟨leI_dom, leI_refl hE, leI_trans hE, fun a b h1 h2 => ?_, fun a b ha hb => ?_, fun a b ha hb => ?_⟩
  · obtain ⟨ia, ib⟩ := leI_dom a b h1
    obtain ⟨x, hx, rfl⟩ := nat_of_isI ia
    obtain ⟨y, hy, rfl⟩ := nat_of_isI ib
    have := hp x y hx hy
    simp only [pairOk, h1, h2, Bool.and_true, Bool.and_eq_true] at this
    simpa using this.1.1
  · obtain ⟨x, hx, rfl⟩ := nat_of_isI ha
    obtain ⟨y, hy, rfl⟩ := nat_of_isI hb
    have := hp x y hx hy
    simp only [pairOk, Bool.and_eq_true, decide_eq_true_eq] at this
    exact this.1.2
  · obtain ⟨x, hx, rfl⟩ := nat_of_isI ha
    obtain ⟨y, hy, rfl⟩ := nat_of_isI hb
    have := hp x y hx hy
    simp only [pairOk, Bool.and_eq_true, decide_eq_true_eq] at this
    exact this.2

/-- A name's place: the list's length, if it is none. -/
def posN : List ByteArray → ByteArray → Nat
  | [], _ => 0
  | a :: r, s => if a = s then 0 else posN r s + 1
def hasB (L : List ByteArray) (s : ByteArray) : Bool := decide (posN L s < L.length)
def findI (L : List ByteArray) (s : ByteArray) : Int := if hasB L s = true then (posN L s : Int) else -1
theorem posN_le : ∀ (L : List ByteArray) (s : ByteArray), posN L s ≤ L.length
  | [], _ => Nat.le_refl _
  | a :: r, s => by
    have := posN_le r s
    unfold posN
    split
    · simp
    · simp; omega
theorem posN_get : ∀ {L : List ByteArray} {s : ByteArray} (h : posN L s < L.length), L[posN L s] = s
  | [], _, h => by simp at h
  | a :: r, s, h => by
    by_cases e : a = s
    · simp [posN, e]
    · have hp : posN (a :: r) s = posN r s + 1 := by simp [posN, e]
      have h' : posN r s < r.length := by rw [hp] at h; simpa using h
      have := posN_get h'
      simp only [hp, List.getElem_cons_succ]
      exact this
theorem posN_least : ∀ {L : List ByteArray} {s : ByteArray} {i : Nat} (h : i < L.length), L[i] = s → posN L s ≤ i
  | a :: r, s, 0, _, e => by
    have : a = s := e
    simp [posN, this]
  | a :: r, s, i + 1, h, e => by
    have := posN_least (L := r) (s := s) (i := i) (by simpa using h) (by simpa using e)
    unfold posN
    split
    · omega
    · omega
theorem hasB_iff {L : List ByteArray} {s : ByteArray} : hasB L s = true ↔ s ∈ L := by
  unfold hasB
  rw [decide_eq_true_eq]
  refine ⟨fun h => ?_, fun h => ?_⟩
  · rw [← posN_get h]; exact List.getElem_mem h
  · obtain ⟨i, hi, he⟩ := List.getElem_of_mem h
    have := posN_least hi he
    omega
theorem posN_eq {L : List ByteArray} {s : ByteArray} {i : Nat} (h : i < L.length) (he : L[i] = s) (hb : ∀ j (hj : j < i), L[j] ≠ s) : posN L s = i := by
  have h1 := posN_least h he
  by_cases c : posN L s < i
  · exact absurd (posN_get (by omega)) (hb _ c)
  · omega
theorem findI_some {L : List ByteArray} {s : ByteArray} {i : Nat} (h : i < L.length) (he : L[i] = s) (hb : ∀ j (hj : j < i), L[j] ≠ s) : findI L s = (i : Int) := by
  have := posN_eq h he hb
  unfold findI
  rw [if_pos (by unfold hasB; simp; omega), this]
theorem findI_none {L : List ByteArray} {s : ByteArray} (h : s ∉ L) : findI L s = -1 := by
  unfold findI
  rw [if_neg (fun c => h (hasB_iff.1 c))]
theorem findI_neg {L : List ByteArray} {s : ByteArray} : decide (findI L s < 0) = !hasB L s := by
  unfold findI
  cases hasB L s <;> simp
theorem findI_pos {L : List ByteArray} {s : ByteArray} (h : hasB L s = true) : findI L s = (posN L s : Int) ∧ posN L s < L.length := by
  unfold findI
  rw [if_pos h]
  exact ⟨rfl, by simpa [hasB] using h⟩
/-- The edges as places. -/
def ixE (L : List ByteArray) (E : List (ByteArray × ByteArray)) : List (Nat × Nat) := E.map fun e => (posN L e.1, posN L e.2)
def nameOk (L : List ByteArray) (i : Nat) : Bool := match L[i]? with
  | some s => !s.toList.isEmpty && decide (s.size ≤ 30) && !hasB (L.take i) s
  | none => true
def namesOk (L : List ByteArray) : Bool := (List.range L.length).all (nameOk L)
def edgesOk (L : List ByteArray) (E : List (ByteArray × ByteArray)) : Bool := E.all fun e => hasB L e.1 && hasB L e.2
/-- Which stands below which, of names and edges. -/
def leL (L : List ByteArray) (E : List (ByteArray × ByteArray)) : Int → Int → Bool := leI L.length (ixE L E)
/-- New's error. -/
def latErr (L : List ByteArray) (E : List (ByteArray × ByteArray)) : Int :=
  if 16 < L.length ∨ 64 < E.length then 8 else if namesOk L = false ∨ edgesOk L E = false then 11
  else if L.length = 0 then 12 else if latOk (leL L E) L.length = true then 0 else 12

theorem ixE_lt {L : List ByteArray} {E : List (ByteArray × ByteArray)} (h : edgesOk L E = true) : ∀ e ∈ ixE L E, e.1 < L.length ∧ e.2 < L.length := by
  intro e he
  simp only [ixE, List.mem_map] at he
  obtain ⟨x, hx, rfl⟩ := he
  have := List.all_eq_true.1 h x hx
  simp only [Bool.and_eq_true] at this
  exact ⟨(findI_pos this.1).2, (findI_pos this.2).2⟩
theorem latErr_zero {L : List ByteArray} {E : List (ByteArray × ByteArray)} (h : latErr L E = 0) :
    L.length ≤ 16 ∧ E.length ≤ 64 ∧ namesOk L = true ∧ edgesOk L E = true ∧ 0 < L.length ∧ latOk (leL L E) L.length = true := by
  unfold latErr at h
  by_cases h1 : 16 < L.length ∨ 64 < E.length
  · rw [if_pos h1] at h; omega
  rw [if_neg h1] at h
  by_cases h2 : namesOk L = false ∨ edgesOk L E = false
  · rw [if_pos h2] at h; omega
  rw [if_neg h2] at h
  by_cases h3 : L.length = 0
  · rw [if_pos h3] at h; omega
  rw [if_neg h3] at h
  by_cases h4 : latOk (leL L E) L.length = true
  · have a1 : namesOk L = true := by
      cases c : namesOk L with
      | true => rfl
      | false => exact absurd (.inl c) h2
    have a2 : edgesOk L E = true := by
      cases c : edgesOk L E with
      | true => rfl
      | false => exact absurd (.inr c) h2
    exact ⟨by omega, by omega, a1, a2, by omega, h4⟩
  · rw [if_neg h4] at h; omega
theorem latErr_lat {L : List ByteArray} {E : List (ByteArray × ByteArray)} (h : latErr L E = 0) : IsLat (leL L E) L.length := by
  obtain ⟨_, _, _, h1, _, h2⟩ := latErr_zero h
  exact isLat_of (ixE_lt h1) h2

end Go.Proofs.Ytobbomdknahicaa
