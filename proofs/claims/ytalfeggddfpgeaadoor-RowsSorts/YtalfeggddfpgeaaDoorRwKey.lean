/- How keys stand, and what lists in order are, without Go. -/
import Derived.Test.YtalfeggddfpgeaaDoorRwSpec
namespace Go.Proofs.YtalfeggddfpgeaaDoor
open Go.RowKit Go.Sort

theorem good_ordE : Good ordE :=
  ⟨fun a b => good_ordV.lo (a.1, a.2.1, a.2.2.toList) (b.1, b.2.1, b.2.2.toList), ordE_anti, fun a b => ⟨ordE_zero, fun h => by subst h; exact ordE_self a⟩,
    fun a b c => good_ordV.trans (a.1, a.2.1, a.2.2.toList) (b.1, b.2.1, b.2.2.toList) (c.1, c.2.1, c.2.2.toList)⟩
/-- The other way round, where the first way says so. -/
def flipD (d : List Bool) (n : Int) : Int := if d.headD false = true then -n else n
theorem flipD_zero (d : List Bool) (n : Int) : flipD d n = 0 ↔ n = 0 := by unfold flipD; split <;> omega
theorem good_flip {A : Type} {c : A → A → Int} (g : Good c) (d : List Bool) : Good fun a b => flipD d (c a b) := by
  cases h : d.headD false
  · have e : (fun a b => flipD d (c a b)) = c := by funext a b; unfold flipD; rw [h]; rfl
    rw [e]; exact g
  · have e : (fun a b => flipD d (c a b)) = fun a b => -(c a b) := by funext a b; unfold flipD; rw [h]; rfl
    rw [e]
    refine ⟨fun a b => ?_, fun a b => ?_, fun a b => ?_, fun a b e h1 h2 => ?_⟩
    · have := g.hi a b; omega
    · have := g.anti a b; omega
    · rw [← g.zero a b]; omega
    · have x1 := g.anti a b
      have x2 := g.anti b e
      have x3 := g.anti a e
      have := g.trans e b a (by omega) (by omega)
      omega
def ordK : Row → Row → List Bool → Int
  | [], [], _ => 0
  | [], _ :: _, d => flipD d (-1)
  | _ :: _, [], d => flipD d 1
  | e :: l, f :: m, d => if ordE e f = 0 then ordK l m d.tail else flipD d (ordE e f)
theorem flipD_neg (d : List Bool) (n : Int) : flipD d (-n) = -flipD d n := by unfold flipD; split <;> omega
theorem flipD_one (d : List Bool) : flipD d 1 = 1 ∨ flipD d 1 = -1 := by unfold flipD; split <;> omega
theorem ordK_cons (e f : Ent) (l m : Row) (d : List Bool) : ordK (e :: l) (f :: m) d = if flipD d (ordE e f) = 0 then ordK l m d.tail else flipD d (ordE e f) := by
  rw [ordK]
  by_cases h : ordE e f = 0
  · rw [if_pos h, if_pos ((flipD_zero _ _).2 h)]
  · rw [if_neg h, if_neg (fun c => h ((flipD_zero _ _).1 c))]
theorem ordK_lo : ∀ (a b : Row) (d : List Bool), -1 ≤ ordK a b d
  | [], [], _ => by simp [ordK]
  | [], _ :: _, d => by have := flipD_one d; rw [ordK, flipD_neg]; omega
  | _ :: _, [], d => by have := flipD_one d; rw [ordK]; omega
  | e :: l, f :: m, d => by
    rw [ordK_cons]
    split
    · exact ordK_lo l m d.tail
    · exact (good_flip good_ordE d).lo e f
theorem ordK_anti' : ∀ (a b : Row) (d : List Bool), ordK a b d = -ordK b a d
  | [], [], _ => by simp [ordK]
  | [], _ :: _, d => by rw [ordK, ordK, flipD_neg]
  | _ :: _, [], d => by rw [ordK, ordK, flipD_neg]; omega
  | e :: l, f :: m, d => by
    have h := (good_flip good_ordE d).anti e f
    rw [ordK_cons, ordK_cons]
    by_cases c : flipD d (ordE e f) = 0
    · rw [if_pos c, if_pos (by omega)]; exact ordK_anti' l m d.tail
    · rw [if_neg c, if_neg (by omega)]; exact h
theorem ordK_zero : ∀ (a b : Row) (d : List Bool), ordK a b d = 0 ↔ a = b
  | [], [], _ => by simp [ordK]
  | [], _ :: _, d => by have := flipD_one d; rw [ordK, flipD_neg]; simp; omega
  | _ :: _, [], d => by have := flipD_one d; rw [ordK]; simp; omega
  | e :: l, f :: m, d => by
    have h := (good_flip good_ordE d).zero e f
    rw [ordK_cons]
    by_cases c : flipD d (ordE e f) = 0
    · rw [if_pos c, ordK_zero l m d.tail]
      simp [h.1 c]
    · rw [if_neg c]
      have : ¬ e = f := fun x => c (h.2 x)
      simp [this, c]
theorem ordK_trans : ∀ (a b c : Row) (d : List Bool), ordK a b d ≤ 0 → ordK b c d ≤ 0 → ordK a c d ≤ 0
  | [], [], _, _, _, h => h
  | [], _ :: _, [], _, _, _ => by simp [ordK]
  | [], _ :: _, _ :: _, _, h, _ => h
  | _ :: _, [], [], _, h, _ => h
  | _ :: _, [], _ :: _, d, h, k => by
    have := flipD_one d
    simp only [ordK, flipD_neg] at h k
    omega
  | _ :: _, _ :: _, [], _, _, k => k
  | e :: l, f :: m, g :: n, d, h, k => by
    have G := good_flip good_ordE d
    rw [ordK_cons] at h k ⊢
    by_cases c1 : flipD d (ordE e f) = 0
    · rw [if_pos c1] at h
      have e1 := (G.zero e f).1 c1
      subst e1
      by_cases c2 : flipD d (ordE e g) = 0
      · rw [if_pos c2] at k ⊢
        exact ordK_trans l m n d.tail h k
      · rw [if_neg c2] at k ⊢
        exact k
    · rw [if_neg c1] at h
      by_cases c2 : flipD d (ordE f g) = 0
      · have e1 := (G.zero f g).1 c2
        subst e1
        rw [if_neg c1]; exact h
      · rw [if_neg c2] at k
        have := G.strict e f g (by omega) k
        rw [if_neg (by omega)]
        omega
theorem good_ordK (d : List Bool) : Good fun a b => ordK a b d := ⟨fun a b => ordK_lo a b d, fun a b => ordK_anti' a b d, fun a b => ordK_zero a b d, fun a b c => ordK_trans a b c d⟩
theorem ordK_drop {a b : Row} {d : List Bool} {k : Nat} (h1 : k < a.length) (h2 : k < b.length) : ordK (a.drop k) (b.drop k) (d.drop k) = if ordE a[k] b[k] = 0 then ordK (a.drop (k + 1)) (b.drop (k + 1)) (d.drop (k + 1)) else flipD (d.drop k) (ordE a[k] b[k]) := by
  rw [List.drop_eq_getElem_cons h1, List.drop_eq_getElem_cons h2, ordK]
  simp
theorem ordK_left {a b : Row} {d : List Bool} {k : Nat} (h1 : a.length ≤ k) (h2 : k < b.length) : ordK (a.drop k) (b.drop k) (d.drop k) = flipD (d.drop k) (-1) := by
  rw [List.drop_eq_getElem_cons h2, List.drop_eq_nil_of_le h1, ordK]
theorem ordK_right {a b : Row} {d : List Bool} {k : Nat} (h1 : k < a.length) (h2 : b.length ≤ k) : ordK (a.drop k) (b.drop k) (d.drop k) = flipD (d.drop k) 1 := by
  rw [List.drop_eq_getElem_cons h1, List.drop_eq_nil_of_le h2, ordK]
theorem ordK_end {a b : Row} {d : List Bool} {k : Nat} (h1 : a.length ≤ k) (h2 : b.length ≤ k) : ordK (a.drop k) (b.drop k) (d.drop k) = 0 := by
  rw [List.drop_eq_nil_of_le h1, List.drop_eq_nil_of_le h2, ordK]
theorem headD_drop (d : List Bool) (k : Nat) : (d.drop k).headD false = d.getD k false := by
  rw [List.headD_eq_head?_getD, List.head?_drop]; rfl

/-- An order of places by what stands at them: -1, 0, 1; more than one may be the same. -/
structure Pre (cf : Nat → Nat → Int) : Prop where
  anti : ∀ p q, cf p q = -cf q p
  tr : ∀ p q r, cf p q ≤ 0 → cf q r ≤ 0 → cf p r ≤ 0
  st : ∀ p q r, cf p q < 0 → cf q r ≤ 0 → cf p r < 0
  st' : ∀ p q r, cf p q ≤ 0 → cf q r < 0 → cf p r < 0
/-- Ahead: smaller, or the same and of a lesser place. -/
def lt (cf : Nat → Nat → Int) (p q : Nat) : Prop := cf p q < 0 ∨ (cf p q = 0 ∧ p < q)
theorem lt_trans' {cf : Nat → Nat → Int} (h : Pre cf) {p q r : Nat} (h1 : lt cf p q) (h2 : lt cf q r) : lt cf p r := by
  rcases h1 with h1 | ⟨h1, k1⟩ <;> rcases h2 with h2 | ⟨h2, k2⟩
  · exact .inl (h.st p q r h1 (by omega))
  · exact .inl (h.st p q r h1 (by omega))
  · exact .inl (h.st' p q r (by omega) h2)
  · have a := h.tr p q r (by omega) (by omega)
    have x1 := h.anti p q
    have x2 := h.anti q r
    have x3 := h.anti p r
    have b := h.tr r q p (by omega) (by omega)
    exact .inr ⟨by omega, by omega⟩
theorem lt_asymm' {cf : Nat → Nat → Int} (h : Pre cf) {p q : Nat} (h1 : lt cf p q) (h2 : lt cf q p) : False := by
  have := h.anti p q
  unfold lt at h1 h2
  omega
theorem lt_or {cf : Nat → Nat → Int} (h : Pre cf) {p q : Nat} (hne : p ≠ q) : lt cf p q ∨ lt cf q p := by
  have := h.anti p q
  unfold lt
  omega
theorem lt_up {cf : Nat → Nat → Int} {p q : Nat} (hpq : p < q) : lt cf q p ↔ cf q p < 0 := by
  unfold lt; omega
theorem lt_not {cf : Nat → Nat → Int} (h : Pre cf) {p q : Nat} (hpq : p < q) (hn : ¬ cf q p < 0) : lt cf p q := by
  have := h.anti p q
  unfold lt; omega

def cfK (K : List Row) (d : List Bool) (p q : Nat) : Int := ordK (K.getD p []) (K.getD q []) d
theorem pre_cfK (K : List Row) (d : List Bool) : Pre (cfK K d) :=
  ⟨fun _ _ => (good_ordK d).anti _ _, fun _ _ _ => (good_ordK d).trans _ _ _, fun _ _ _ => (good_ordK d).strict _ _ _, fun _ _ _ => (good_ordK d).strict' _ _ _⟩

/-- What stands at a place. -/
def nth (P : List Nat) (k : Nat) : Nat := P.getD k 0
theorem nth_get {P : List Nat} {k : Nat} (h : k < P.length) : nth P k = P[k] := by simp [nth, List.getD, h]
theorem nth_set {P : List Nat} {i k x : Nat} (h : i < P.length) : nth (P.set i x) k = if k = i then x else nth P k := by
  unfold nth
  simp only [List.getD, List.getElem?_set]
  by_cases c : i = k
  · subst c; simp [h]
  · rw [if_neg c, if_neg (fun e => c e.symm)]
/-- Two places exchanged. -/
def swp (P : List Nat) (i j : Nat) : List Nat := (P.set i (nth P j)).set j (nth P i)
theorem swp_length (P : List Nat) (i j : Nat) : (swp P i j).length = P.length := by simp [swp]
theorem nth_swp {P : List Nat} {i j k : Nat} (hi : i < P.length) (hj : j < P.length) : nth (swp P i j) k = if k = j then nth P i else if k = i then nth P j else nth P k := by
  unfold swp
  rw [nth_set (by simpa using hj), nth_set hi]
theorem swp_perm {P : List Nat} {i j : Nat} (hi : i < P.length) (hj : j < P.length) : (swp P i j).Perm P := by
  unfold swp
  rw [nth_get hi, nth_get hj]
  exact List.set_set_perm hi hj
/-- In order from a up to b. -/
def SortedOn (cf : Nat → Nat → Int) (P : List Nat) (a b : Nat) : Prop := ∀ k l, a ≤ k → k < l → l < b → lt cf (nth P k) (nth P l)
theorem sorted_pairwise {cf : Nat → Nat → Int} {P : List Nat} (h : SortedOn cf P 0 P.length) : P.Pairwise (lt cf) := by
  rw [List.pairwise_iff_getElem]
  intro i j hi hj hij
  have := h i j (Nat.zero_le _) hij hj
  rwa [nth_get hi, nth_get hj] at this
theorem sorted_unique {cf : Nat → Nat → Int} (hc : Pre cf) {P Q : List Nat} (hp : P.Perm Q) (h1 : SortedOn cf P 0 P.length) (h2 : SortedOn cf Q 0 Q.length) : P = Q :=
  List.Perm.eq_of_pairwise (le := lt cf) (fun _ _ _ _ x y => (lt_asymm' hc x y).elim) (sorted_pairwise h1) (sorted_pairwise h2) hp
/-- The same elsewhere. -/
def SameOut (P Q : List Nat) (a b : Nat) : Prop := ∀ k, (k < a ∨ b ≤ k) → nth P k = nth Q k

end Go.Proofs.YtalfeggddfpgeaaDoor
