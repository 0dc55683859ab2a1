/- The program's sets of levels, as bits of numbers: what its loops make of them, in plain words. -/
import Derived.Test.YtobbomdknahicaaMaskSpec
import Derived.Test.YtobbomdknahicaaNewSpec
namespace Go.Proofs.Ytobbomdknahicaa

/-- One of the sets is another one. -/
def setM (A : Nat → Nat) (a x : Nat) : Nat → Nat := fun k => if k = a then x else A k
theorem setM_same (A : Nat → Nat) (a x : Nat) : setM A a x a = x := by simp [setM]
theorem setM_other {A : Nat → Nat} {a x k : Nat} (h : k ≠ a) : setM A a x k = A k := by simp [setM, h]

/-- Is all of x in y? As the program asks it. -/
def subB (x y : Nat) : Bool := (x &&& (4294967295 - y)) == 0
theorem subB_iff {x y : Nat} (hx : x < 4294967296) (hy : y < 4294967296) : subB x y = true ↔ ∀ b, x.testBit b = true → y.testBit b = true := by
  have h0 : ∀ b, (4294967295 - y).testBit b = (decide (b < 32) && !y.testBit b) := fun b => by
    have := Nat.testBit_two_pow_sub_succ (n := 32) (x := y) (by simpa using hy) b
    rw [show 2 ^ 32 - (y + 1) = 4294967295 - y by omega] at this
    exact this
  unfold subB
  rw [beq_iff_eq]
  refine ⟨fun h b hb => ?_, fun h => Nat.eq_of_testBit_eq fun b => ?_⟩
  · have h1 : (x &&& (4294967295 - y)).testBit b = false := by rw [h]; exact Nat.zero_testBit b
    rw [Nat.testBit_and, hb, h0] at h1
    have hb32 : b < 32 := by
      refine Classical.byContradiction fun hn => ?_
      have : x.testBit b = false := Nat.testBit_lt_two_pow (Nat.lt_of_lt_of_le (show x < 2 ^ 32 by simpa using hx) (Nat.pow_le_pow_right (n := 2) (by decide) (by omega : 32 ≤ b)))
      rw [this] at hb; cases hb
    simpa [hb32] using h1
  · rw [Nat.zero_testBit, Nat.testBit_and, h0]
    cases hx' : x.testBit b with
    | false => simp
    | true => simp [h b hx']

/-- The first of a set from which all of the set are reached, as the program looks for it. -/
def firstM (s : Nat) (R : Nat → Nat) : Int := firstI 16 fun a => s.testBit a && subB s (R a)
theorem range_find_ext {p : Nat → Bool} {n : Nat} : ∀ {m : Nat}, n ≤ m → (∀ c, n ≤ c → p c = false) → (List.range m).find? p = (List.range n).find? p
  | 0, h, _ => by
    have : n = 0 := by omega
    subst this; rfl
  | m + 1, h, h0 => by
    by_cases e : n = m + 1
    · subst e; rfl
    · rw [List.range_succ, List.find?_append, range_find_ext (m := m) (by omega) h0]
      have : ([m].find? p) = none := by simp [h0 m (by omega)]
      rw [this]
      simp
theorem firstI_ext {n m : Nat} {p q : Nat → Bool} (hm : n ≤ m) (h : ∀ c, c < n → p c = q c) (h0 : ∀ c, n ≤ c → p c = false) : firstI m p = firstI n q := by
  rw [← firstI_congr h]
  unfold firstI
  rw [range_find_ext hm h0]
/-- What the sets say. -/
def IsMask (le : Int → Int → Bool) (A : Nat → Nat) : Prop := ∀ a b : Nat, (A a).testBit b = le (a : Int) (b : Int)
theorem IsMask.lt {le : Int → Int → Bool} {n : Nat} {A : Nat → Nat} (h : IsMask le A) (hn : n ≤ 16) (dom : ∀ a b, le a b = true → isI n a = true ∧ isI n b = true) (a : Nat) : A a < 65536 := by
  refine Nat.lt_of_lt_of_le (lt_of_bits (n := n) fun b hb => ?_) (Nat.pow_le_pow_right (by decide) hn : 2 ^ n ≤ 2 ^ 16)
  rw [h a b] at hb
  have := (dom _ _ hb).2
  rw [isI_cast] at this
  simpa using this
theorem firstM_mask {le : Int → Int → Bool} {n : Nat} {A : Nat → Nat} (hn : n ≤ 16) (h : IsMask le A) (dom : ∀ a b, le a b = true → isI n a = true ∧ isI n b = true) {s : Nat} {p q : Nat → Bool}
    (hs : ∀ c, s.testBit c = p c) (hp : ∀ c, p c = true → c < n) (hq : ∀ c, c < n → q c = (p c && (List.range n).all fun d => !p d || le (c : Int) (d : Int))) : firstM s A = firstI n q := by
  have hlt : s < 65536 := Nat.lt_of_lt_of_le (lt_of_bits (n := n) fun b hb => hp b (by rw [← hs]; exact hb)) (Nat.pow_le_pow_right (by decide) hn : 2 ^ n ≤ 2 ^ 16)
  refine firstI_ext hn (fun c hc => ?_) (fun c hc => ?_)
  · rw [hq c hc, hs]
    congr 1
    have := h.lt hn dom c
    rw [Bool.eq_iff_iff, subB_iff (by omega) (by omega), List.all_eq_true]
    refine ⟨fun g d _ => ?_, fun g b hb => ?_⟩
    · cases e : p d with
      | false => rfl
      | true =>
        have := g d (by rw [hs]; exact e)
        rw [h c d] at this
        simp [this]
    · rw [hs] at hb
      have := g b (List.mem_range.2 (hp b hb))
      rw [hb] at this
      rw [h c b]
      simpa using this
  · cases e : p c with
    | false => rw [hs, e, Bool.false_and]
    | true => have := hp c e; omega
theorem firstM_join {le : Int → Int → Bool} {n : Nat} {A : Nat → Nat} (hn : n ≤ 16) (h : IsMask le A) (dom : ∀ a b, le a b = true → isI n a = true ∧ isI n b = true) (a b : Nat) : firstM (A a &&& A b) A = joinI le n (a : Int) (b : Int) := by
  refine firstM_mask hn h dom (p := fun c => le (a : Int) (c : Int) && le (b : Int) (c : Int)) (fun c => by rw [Nat.testBit_and, h a c, h b c]) (fun c hc => ?_) (fun c _ => ?_)
  · simp only [Bool.and_eq_true] at hc
    have := (dom _ _ hc.1).2
    rw [isI_cast] at this
    simpa using this
  · unfold leastB
    congr 1
    refine List.all_congr rfl fun d => ?_
    cases le (a : Int) (d : Int) <;> cases le (b : Int) (d : Int) <;> simp
theorem firstM_bot {le : Int → Int → Bool} {n : Nat} {A : Nat → Nat} (hn : n ≤ 16) (h : IsMask le A) (dom : ∀ a b, le a b = true → isI n a = true ∧ isI n b = true) : firstM (2 ^ n - 1) A = botI le n := by
  refine firstM_mask hn h dom (p := fun c => decide (c < n)) (fun c => Nat.testBit_two_pow_sub_one n c) (fun c hc => by simpa using hc) (fun c hc => ?_)
  rw [decide_eq_true hc, Bool.true_and, Bool.eq_iff_iff, List.all_eq_true, List.all_eq_true]
  refine ⟨fun g d hd => by simp [g d hd], fun g d hd => ?_⟩
  have := g d hd
  simpa [List.mem_range.1 hd] using this
theorem IsMask.flip {le : Int → Int → Bool} {A B : Nat → Nat} (h : IsMask le A) (hb : ∀ y x, (B y).testBit x = (A x).testBit y) : IsMask (flipI le) B := fun a b => by rw [hb, h b a]; rfl

/-- So many levels have themselves. -/
def startM (k : Nat) : Nat → Nat := fun a => if a < k then 2 ^ a else 0
theorem startM_zero : startM 0 = fun _ => 0 := by funext a; simp [startM]
theorem startM_succ (k : Nat) : setM (startM k) k (2 ^ k) = startM (k + 1) := by
  funext a
  by_cases e : a = k
  · subst e; simp [setM, startM]
  · simp only [setM, startM, e, if_false]
    by_cases h : a < k
    · rw [if_pos h, if_pos (by omega)]
    · rw [if_neg h, if_neg (by omega)]
/-- So many edges have been taken. -/
def EdgeP (n : Nat) (F : List (Nat × Nat)) (k : Nat) (A : Nat → Nat) : Prop := ∀ a b, (A a).testBit b = ((decide (a < n) && a == b) || (F.take k).any fun e => e.1 == a && e.2 == b)
theorem EdgeP.start (n : Nat) (F : List (Nat × Nat)) : EdgeP n F 0 (startM n) := fun a b => by
  simp only [startM, List.take_zero, List.any_nil, Bool.or_false]
  by_cases h : a < n
  · rw [if_pos h, Nat.testBit_two_pow]
    simp [h]
    rfl
  · rw [if_neg h, Nat.zero_testBit]; simp [h]
theorem EdgeP.succ {n : Nat} {F : List (Nat × Nat)} {k : Nat} {A : Nat → Nat} (h : EdgeP n F k A) {x y : Nat} (hk : F[k]? = some (x, y)) : EdgeP n F (k + 1) (setM A x (A x ||| 2 ^ y)) := fun a b => by
  obtain ⟨hl, he⟩ := List.getElem?_eq_some_iff.1 hk
  rw [List.take_succ_eq_append_getElem hl, he, List.any_append]
  by_cases e : a = x
  · subst e
    rw [setM_same, Nat.testBit_or, h a b, Nat.testBit_two_pow]
    simp [Bool.or_assoc]
    rfl
  · rw [setM_other e, h a b]
    have : (x == a) = false := by simpa using fun e' : x = a => e e'.symm
    simp [this]
theorem EdgeP.lt {n : Nat} {F : List (Nat × Nat)} {k : Nat} {A : Nat → Nat} (h : EdgeP n F k A) (hn : n ≤ 16) (hF : ∀ e ∈ F.take k, e.1 < n ∧ e.2 < n) (a : Nat) : A a < 65536 := by
  refine Nat.lt_of_lt_of_le (lt_of_bits (n := n) fun b hb => ?_) (Nat.pow_le_pow_right (by decide) hn : 2 ^ n ≤ 2 ^ 16)
  rw [h a b] at hb
  simp only [Bool.or_eq_true, Bool.and_eq_true, decide_eq_true_eq, beq_iff_eq, List.any_eq_true] at hb
  rcases hb with ⟨h1, rfl⟩ | ⟨e, he, _, rfl⟩
  · exact h1
  · exact (hF e he).2

/-- The sets on their way: each has itself and its edges, and all that it has is above. -/
def MidP (n : Nat) (F : List (Nat × Nat)) (A : Nat → Nat) : Prop :=
  (∀ a, a < n → (A a).testBit a = true) ∧ (∀ x y, (x, y) ∈ F → (A x).testBit y = true) ∧ ∀ a b, (A a).testBit b = true → a < n ∧ b < n ∧ Reach F a b
theorem EdgeP.mid {n : Nat} {F : List (Nat × Nat)} {A : Nat → Nat} (hF : ∀ e ∈ F, e.1 < n ∧ e.2 < n) (h : EdgeP n F F.length A) : MidP n F A := by
  have h' : ∀ a b, (A a).testBit b = ((decide (a < n) && a == b) || F.any fun e => e.1 == a && e.2 == b) := fun a b => by rw [h a b, List.take_length]
  refine ⟨fun a ha => by rw [h']; simp [ha], fun x y hxy => ?_, fun a b hab => ?_⟩
  · rw [h']
    have : (F.any fun e => e.1 == x && e.2 == y) = true := List.any_eq_true.2 ⟨(x, y), hxy, by simp⟩
    rw [this, Bool.or_true]
  · rw [h'] at hab
    simp only [Bool.or_eq_true, Bool.and_eq_true, decide_eq_true_eq, beq_iff_eq, List.any_eq_true] at hab
    rcases hab with ⟨h1, rfl⟩ | ⟨e, he, rfl, rfl⟩
    · exact ⟨h1, h1, Reach.refl F a⟩
    · exact ⟨(hF e he).1, (hF e he).2, Reach.edge he⟩
theorem MidP.lt {n : Nat} {F : List (Nat × Nat)} {A : Nat → Nat} (h : MidP n F A) (hn : n ≤ 16) (a : Nat) : A a < 65536 :=
  Nat.lt_of_lt_of_le (lt_of_bits (n := n) fun b hb => (h.2.2 a b hb).2.1) (Nat.pow_le_pow_right (by decide) hn : 2 ^ n ≤ 2 ^ 16)
/-- A set has what those have that it has. -/
def StillP (A : Nat → Nat) (x : Nat) : Prop := ∀ c, (A x).testBit c = true → ∀ d, (A c).testBit d = true → (A x).testBit d = true
theorem MidP.closed {n : Nat} {F : List (Nat × Nat)} {A : Nat → Nat} (hF : ∀ e ∈ F, e.1 < n ∧ e.2 < n) (h : MidP n F A) (hs : ∀ x, x < n → StillP A x) : IsMask (leI n F) A := fun a b => by
  rw [Bool.eq_iff_iff]
  refine ⟨fun g => ?_, fun g => ?_⟩
  · obtain ⟨ha, hb, hr⟩ := h.2.2 a b g
    exact (leI_iff hF ha hb).2 hr
  · obtain ⟨ia, ib⟩ := leI_dom _ _ g
    rw [isI_cast] at ia ib
    have ha : a < n := by simpa using ia
    have hb : b < n := by simpa using ib
    have hr := (leI_iff hF ha hb).1 g
    exact mask_right (h.1 a ha) (fun x y hxy hx => hs a ha x hx y (h.2.1 x y hxy)) hr
/-- The wider set, when so many have been looked at. -/
def WideP (A : Nat → Nat) (a b m : Nat) : Prop := ∀ d, m.testBit d = true ↔ (A a).testBit d = true ∨ ∃ c, c < b ∧ (A a).testBit c = true ∧ (A c).testBit d = true
theorem WideP.start (A : Nat → Nat) (a : Nat) : WideP A a 0 (A a) := fun d => ⟨.inl, fun h => by
  rcases h with h | ⟨c, hc, _⟩
  · exact h
  · omega⟩
theorem WideP.more {A : Nat → Nat} {a b m : Nat} (h : WideP A a b m) (hb : (A a).testBit b = true) : WideP A a (b + 1) (m ||| A b) := fun d => by
  rw [Nat.testBit_or, Bool.or_eq_true, h d]
  refine ⟨fun g => ?_, fun g => ?_⟩
  · rcases g with (g | ⟨c, hc, g⟩) | g
    · exact .inl g
    · exact .inr ⟨c, by omega, g⟩
    · exact .inr ⟨b, by omega, hb, g⟩
  · rcases g with g | ⟨c, hc, g1, g2⟩
    · exact .inl (.inl g)
    · by_cases e : c = b
      · subst e; exact .inr g2
      · exact .inl (.inr ⟨c, by omega, g1, g2⟩)
theorem WideP.same {A : Nat → Nat} {a b m : Nat} (h : WideP A a b m) (hb : (A a).testBit b = false) : WideP A a (b + 1) m := fun d => by
  rw [h d]
  refine or_congr_right ⟨fun ⟨c, hc, g⟩ => ⟨c, by omega, g⟩, fun ⟨c, hc, g1, g2⟩ => ⟨c, ?_, g1, g2⟩⟩
  by_cases e : c = b
  · subst e; rw [hb] at g1; cases g1
  · omega
theorem WideP.bound {A : Nat → Nat} {n : Nat} {F : List (Nat × Nat)} {a b m : Nat} (hA : MidP n F A) (h : WideP A a b m) (hn : n ≤ 16) : m < 65536 := by
  refine Nat.lt_of_lt_of_le (lt_of_bits (n := n) fun d hd => ?_) (Nat.pow_le_pow_right (by decide) hn : 2 ^ n ≤ 2 ^ 16)
  rcases (h d).1 hd with g | ⟨c, _, _, g⟩
  · exact (hA.2.2 a d g).2.1
  · exact (hA.2.2 c d g).2.1
theorem WideP.mid {A : Nat → Nat} {n : Nat} {F : List (Nat × Nat)} {a b m : Nat} (hA : MidP n F A) (h : WideP A a b m) (ha : a < n) : MidP n F (setM A a m) := by
  obtain ⟨h1, h2, h3⟩ := hA
  refine ⟨fun x hx => ?_, fun x y hxy => ?_, fun x y hxy => ?_⟩
  · by_cases e : x = a
    · subst e; rw [setM_same]; exact (h x).2 (.inl (h1 x hx))
    · rw [setM_other e]; exact h1 x hx
  · by_cases e : x = a
    · subst e; rw [setM_same]; exact (h y).2 (.inl (h2 x y hxy))
    · rw [setM_other e]; exact h2 x y hxy
  · by_cases e : x = a
    · subst e
      rw [setM_same] at hxy
      rcases (h y).1 hxy with g | ⟨c, _, g1, g2⟩
      · exact h3 x y g
      · obtain ⟨_, _, r1⟩ := h3 x c g1
        obtain ⟨_, hy, r2⟩ := h3 c y g2
        exact ⟨ha, hy, r1.trans r2⟩
    · rw [setM_other e] at hxy; exact h3 x y hxy
theorem WideP.still {A : Nat → Nat} {n : Nat} {F : List (Nat × Nat)} {a : Nat} (hA : MidP n F A) (h : WideP A a n (A a)) : StillP A a := fun c hc d hd =>
  (h d).2 (.inr ⟨c, (hA.2.2 a c hc).2.1, hc, hd⟩)
theorem WideP.grows {A : Nat → Nat} {n : Nat} {F : List (Nat × Nat)} {a b m : Nat} (hA : MidP n F A) (h : WideP A a b m) (ha : a < n) (hne : m ≠ A a) : n * n - bitsAll n (setM A a m) < n * n - bitsAll n A := by
  have h1 : bitsAll n A < bitsAll n (setM A a m) := by
    refine bitsAll_lt ha (fun x hx => setM_other hx) (fun d hd => ?_) (fun d hd => ?_) ?_
    · rw [setM_same]; exact (h d).2 (.inl hd)
    · rw [setM_same] at hd
      rcases (h d).1 hd with g | ⟨c, _, _, g⟩
      · exact (hA.2.2 a d g).2.1
      · exact (hA.2.2 c d g).2.1
    · rw [setM_same]; exact fun e => hne e.symm
  have h2 := bitsAll_le n (setM A a m)
  omega

/-- What stands below, when so much has been turned. -/
def TurnP (A B : Nat → Nat) (a b : Nat) : Prop := ∀ y x, (B y).testBit x = ((decide (x < a) || (x == a && decide (y < b))) && (A x).testBit y)
theorem TurnP.start (A : Nat → Nat) : TurnP A (fun _ => 0) 0 0 := fun y x => by simp
theorem TurnP.more {A B : Nat → Nat} {a b : Nat} (h : TurnP A B a b) (hb : (A a).testBit b = true) : TurnP A (setM B b (B b ||| 2 ^ a)) a (b + 1) := fun y x => by
  by_cases e : y = b
  · subst e
    rw [setM_same, Nat.testBit_or, h y x, Nat.testBit_two_pow]
    by_cases ex : a = x
    · subst ex; simp [hb]
    · have h1 : (x == a) = false := by simpa using fun e : x = a => ex e.symm
      simp [h1, ex]
  · rw [setM_other e, h y x]
    by_cases ex : x = a
    · subst ex
      have : decide (y < b + 1) = decide (y < b) := by
        rw [decide_eq_decide]; omega
      rw [this]
    · have h1 : (x == a) = false := by simpa using ex
      simp [h1]
theorem TurnP.same {A B : Nat → Nat} {a b : Nat} (h : TurnP A B a b) (hb : (A a).testBit b = false) : TurnP A B a (b + 1) := fun y x => by
  rw [h y x]
  by_cases ex : x = a
  · subst ex
    by_cases e : y = b
    · subst e; rw [hb]; simp
    · have : decide (y < b + 1) = decide (y < b) := by
        rw [decide_eq_decide]; omega
      rw [this]
  · have h1 : (x == a) = false := by simpa using ex
    simp [h1]
theorem TurnP.row {A B : Nat → Nat} {n a : Nat} (h : TurnP A B a n) (hA : ∀ x y, (A x).testBit y = true → x < n ∧ y < n) : TurnP A B (a + 1) 0 := fun y x => by
  rw [h y x]
  cases e : (A x).testBit y with
  | false => simp
  | true =>
    have := hA x y e
    simp only [Bool.and_true, Nat.not_lt_zero, decide_false, Bool.and_false, Bool.or_false]
    rw [Bool.eq_iff_iff]
    simp only [Bool.or_eq_true, Bool.and_eq_true, decide_eq_true_eq, beq_iff_eq]
    omega
theorem TurnP.all {A B : Nat → Nat} {n : Nat} (h : TurnP A B n 0) (hA : ∀ x y, (A x).testBit y = true → x < n ∧ y < n) : ∀ y x, (B y).testBit x = (A x).testBit y := fun y x => by
  rw [h y x]
  cases e : (A x).testBit y with
  | false => simp
  | true =>
    have := hA x y e
    simp [this.1]
theorem TurnP.lt {A B : Nat → Nat} {n a b : Nat} (h : TurnP A B a b) (hA : ∀ x y, (A x).testBit y = true → x < n ∧ y < n) (hn : n ≤ 16) (y : Nat) : B y < 65536 := by
  refine Nat.lt_of_lt_of_le (lt_of_bits (n := n) fun x hx => ?_) (Nat.pow_le_pow_right (by decide) hn : 2 ^ n ≤ 2 ^ 16)
  rw [h y x] at hx
  simp only [Bool.and_eq_true] at hx
  exact (hA x y hx.2).1

/-- Do two unlike ones stand below one another? -/
def roundB (n : Nat) (A B : Nat → Nat) : Bool := (List.range n).any fun a => (A a &&& B a) != 2 ^ a
theorem roundB_true {n a : Nat} {A B : Nat → Nat} (ha : a < n) (h : (A a &&& B a) ≠ 2 ^ a) : roundB n A B = true := List.any_eq_true.2 ⟨a, List.mem_range.2 ha, by simpa using h⟩
theorem roundB_false {n : Nat} {A B : Nat → Nat} (h : ∀ a, a < n → (A a &&& B a) = 2 ^ a) : roundB n A B = false := by
  cases c : roundB n A B with
  | false => rfl
  | true =>
    obtain ⟨a, ha, h1⟩ := List.any_eq_true.1 c
    have := h a (List.mem_range.1 ha)
    simp [this] at h1
theorem round_iff {le : Int → Int → Bool} {n : Nat} {A B : Nat → Nat} (hA : IsMask le A) (hB : IsMask (flipI le) B) (refl : ∀ a, isI n a = true → le a a = true) (dom : ∀ a b, le a b = true → isI n a = true ∧ isI n b = true) :
    roundB n A B = false ↔ ∀ a b : Nat, a < n → b < n → (a ≠ b ∧ le (a : Int) (b : Int) = true ∧ le (b : Int) (a : Int) = true) → False := by
  refine ⟨fun h a b ha hb ⟨hne, h1, h2⟩ => ?_, fun h => roundB_false fun a ha => Nat.eq_of_testBit_eq fun b => ?_⟩
  · have h3 : (A a &&& B a) = 2 ^ a := by
      refine Classical.byContradiction fun c => ?_
      rw [roundB_true ha c] at h; cases h
    have h4 : (A a &&& B a).testBit b = true := by
      rw [Nat.testBit_and, hA a b, hB a b, h1]
      show (true && le (b : Int) (a : Int)) = true
      rw [h2]; rfl
    rw [h3, Nat.testBit_two_pow] at h4
    exact hne (by simpa using h4)
  · rw [Nat.testBit_and, hA a b, hB a b, Nat.testBit_two_pow, Bool.eq_iff_iff]
    show (le (a : Int) (b : Int) && le (b : Int) (a : Int)) = true ↔ _
    rw [Bool.and_eq_true, decide_eq_true_eq]
    refine ⟨fun ⟨h1, h2⟩ => ?_, fun e => ?_⟩
    · refine Classical.byContradiction fun hne => ?_
      have hb := (dom _ _ h1).2
      rw [isI_cast] at hb
      exact h a b ha (by simpa using hb) ⟨hne, h1, h2⟩
    · subst e
      have := refl (a : Int) (by rw [isI_cast]; exact decide_eq_true ha)
      exact ⟨this, this⟩
/-- What the program tells of a lattice, and what the document does. -/
theorem latOk_iff {le : Int → Int → Bool} {n : Nat} : latOk le n = true ↔ (∀ a b : Nat, a < n → b < n → (a ≠ b ∧ le (a : Int) (b : Int) = true ∧ le (b : Int) (a : Int) = true) → False) ∧ ∀ a b : Nat, a < n → b < n → 0 ≤ joinI le n (a : Int) (b : Int) ∧ 0 ≤ meetI le n (a : Int) (b : Int) := by
  rw [latOk_pair]
  refine ⟨fun h => ⟨fun a b ha hb ⟨hne, h1, h2⟩ => ?_, fun a b ha hb => ?_⟩, fun ⟨h, g⟩ a b ha hb => ?_⟩
  · have := h a b ha hb
    simp only [pairOk, h1, h2, Bool.and_true, Bool.and_eq_true] at this
    have h3 := this.1.1
    simp at h3
    omega
  · have := h a b ha hb
    simp only [pairOk, Bool.and_eq_true, decide_eq_true_eq] at this
    exact ⟨this.1.2, this.2⟩
  · obtain ⟨g1, g2⟩ := g a b ha hb
    have h0 := h a b ha hb
    simp only [pairOk, Bool.and_eq_true, decide_eq_true_eq]
    refine ⟨⟨?_, g1⟩, g2⟩
    cases c1 : le (a : Int) (b : Int) with
    | false => simp
    | true =>
      cases c2 : le (b : Int) (a : Int) with
      | false => simp
      | true =>
        have : a = b := Classical.byContradiction fun hne => h0 ⟨hne, c1, c2⟩
        subst this; simp
/-- All pairs ahead of a place have their joins and meets. -/
def PairP (n : Nat) (F G : Nat → Nat → Int) (J M : Nat → Nat → Int) (a b : Nat) : Prop := ∀ x y, x < n → y < n → (x < a ∨ (x = a ∧ y < b)) → J x y = F x y ∧ M x y = G x y ∧ 0 ≤ F x y ∧ 0 ≤ G x y
def setJ (J : Nat → Nat → Int) (a b : Nat) (x : Int) : Nat → Nat → Int := fun p q => if p = a ∧ q = b then x else J p q
theorem PairP.start (n : Nat) (F G J M : Nat → Nat → Int) : PairP n F G J M 0 0 := fun x y _ _ h => by omega
theorem PairP.more {n : Nat} {F G J M : Nat → Nat → Int} {a b : Nat} (h : PairP n F G J M a b) (hf : 0 ≤ F a b) (hg : 0 ≤ G a b) : PairP n F G (setJ J a b (F a b)) (setJ M a b (G a b)) a (b + 1) := fun x y hx hy hxy => by
  by_cases e : x = a ∧ y = b
  · obtain ⟨rfl, rfl⟩ := e
    simp [setJ, hf, hg]
  · simp only [setJ, e, if_false]
    exact h x y hx hy (by omega)
theorem PairP.row {n : Nat} {F G J M : Nat → Nat → Int} {a : Nat} (h : PairP n F G J M a n) : PairP n F G J M (a + 1) 0 := fun x y hx hy hxy => h x y hx hy (by omega)

/-- The places of so many names. -/
def placeF (L : List ByteArray) : ByteArray → Option Int := fun s => if hasB L s = true then some (posN L s : Int) else none
theorem placeF_nil : placeF [] = fun _ => none := by funext s; simp [placeF, hasB, posN]
theorem posN_append_new {L : List ByteArray} {s z : ByteArray} : posN (L ++ [s]) z = if hasB L z = true then posN L z else if s = z then L.length else L.length + 1 := by
  induction L with
  | nil => simp [posN, hasB]
  | cons a r ih =>
    by_cases e : a = z
    · subst e; simp [posN, hasB]
    · have h1 : hasB (a :: r) z = hasB r z := by simp [hasB, posN, e]
      have h2 : posN ((a :: r) ++ [s]) z = posN (r ++ [s]) z + 1 := by simp [posN, e]
      have h3 : posN (a :: r) z = posN r z + 1 := by simp [posN, e]
      rw [h1, h2, h3, ih]
      split
      · rfl
      · split <;> simp
theorem placeF_snoc {L : List ByteArray} {s : ByteArray} (h : hasB L s = false) : (fun z => if z = s then some ((L.length : Nat) : Int) else placeF L z) = placeF (L ++ [s]) := by
  funext z
  have hb : hasB (L ++ [s]) z = (hasB L z || decide (s = z)) := by
    rw [Bool.eq_iff_iff, Bool.or_eq_true, hasB_iff, hasB_iff]
    simp [eq_comm]
  unfold placeF
  rw [hb, posN_append_new]
  by_cases e : z = s
  · subst e; simp [h]
  · have e' : ¬ s = z := fun c => e c.symm
    cases hasB L z <;> simp [e, e']
theorem placeF_some {L : List ByteArray} {s : ByteArray} : (placeF L s).isSome = hasB L s := by
  unfold placeF; cases hasB L s <;> simp
theorem placeF_getD {L : List ByteArray} {s : ByteArray} : (placeF L s).getD 0 = if hasB L s = true then (posN L s : Int) else 0 := by
  unfold placeF; cases hasB L s <;> simp

end Go.Proofs.Ytobbomdknahicaa
