/- Plain facts on orders: of numbers, of lists of bytes, and one behind the other. No Go in sight. -/
import Derived.RowKit
import Derived.Laws.Strings
namespace Go.Proofs.YtcnbbmgclphfdaaDoor
open Go

theorem bl_irrefl : ∀ x : List UInt8, Op.bytesLess x x = false
  | [] => rfl
  | a :: x => by simp [Op.bytesLess, bl_irrefl x]
theorem bl_asymm : ∀ x y : List UInt8, Op.bytesLess x y = true → Op.bytesLess y x = false
  | [], [], h => by simp [Op.bytesLess] at h
  | [], _ :: _, _ => by simp [Op.bytesLess]
  | _ :: _, [], h => by simp [Op.bytesLess] at h
  | a :: x, b :: y, h => by
    simp only [Op.bytesLess, Bool.or_eq_true, Bool.and_eq_true, decide_eq_true_eq, beq_iff_eq] at h
    simp only [Op.bytesLess, Bool.or_eq_false_iff, Bool.and_eq_false_iff, decide_eq_false_iff_not, beq_eq_false_iff_ne]
    rcases h with h | ⟨rfl, h⟩
    · rw [UInt8.lt_iff_toNat_lt] at h
      refine ⟨by rw [UInt8.lt_iff_toNat_lt]; omega, .inl (fun e => by subst e; omega)⟩
    · exact ⟨by rw [UInt8.lt_iff_toNat_lt]; omega, .inr (bl_asymm x y h)⟩
theorem bl_tri : ∀ x y : List UInt8, Op.bytesLess x y = false → Op.bytesLess y x = false → x = y
  | [], [], _, _ => rfl
  | [], _ :: _, h, _ => by simp [Op.bytesLess] at h
  | _ :: _, [], _, h => by simp [Op.bytesLess] at h
  | a :: x, b :: y, h, k => by
    simp only [Op.bytesLess, Bool.or_eq_false_iff, Bool.and_eq_false_iff, decide_eq_false_iff_not, beq_eq_false_iff_ne, UInt8.lt_iff_toNat_lt] at h k
    have e : a = b := UInt8.toNat_inj.1 (by omega)
    subst e
    rw [bl_tri x y (by simpa using h.2) (by simpa using k.2)]
theorem bl_trans : ∀ x y z : List UInt8, Op.bytesLess x y = true → Op.bytesLess y z = true → Op.bytesLess x z = true
  | [], [], _, h, _ => by simp [Op.bytesLess] at h
  | _ :: _, [], _, h, _ => by simp [Op.bytesLess] at h
  | _, _ :: _, [], _, k => by simp [Op.bytesLess] at k
  | [], _ :: _, _ :: _, _, _ => by simp [Op.bytesLess]
  | a :: x, b :: y, c :: z, h, k => by
    simp only [Op.bytesLess, Bool.or_eq_true, Bool.and_eq_true, decide_eq_true_eq, beq_iff_eq, UInt8.lt_iff_toNat_lt] at h k ⊢
    rcases h with h | ⟨rfl, h⟩ <;> rcases k with k | ⟨rfl, k⟩
    · left; omega
    · left; omega
    · left; omega
    · right; exact ⟨rfl, bl_trans x y z h k⟩

/-- An order told by -1, 0 and 1. -/
structure Good {A : Type} (c : A → A → Int) : Prop where
  lo : ∀ a b, -1 ≤ c a b
  anti : ∀ a b, c a b = -c b a
  zero : ∀ a b, c a b = 0 ↔ a = b
  trans : ∀ a b d, c a b ≤ 0 → c b d ≤ 0 → c a d ≤ 0

theorem Good.hi {A : Type} {c : A → A → Int} (g : Good c) (a b : A) : c a b ≤ 1 := by
  have := g.anti a b
  have := g.lo b a
  omega
theorem Good.strict {A : Type} {c : A → A → Int} (g : Good c) (a b d : A) (h : c a b < 0) (k : c b d ≤ 0) : c a d < 0 := by
  have h1 := g.trans a b d (by omega) k
  rcases Int.lt_or_eq_of_le h1 with h2 | h2
  · exact h2
  · have e := (g.zero a d).1 h2
    subst e
    have := g.anti a b
    omega
theorem Good.strict' {A : Type} {c : A → A → Int} (g : Good c) (a b d : A) (h : c a b ≤ 0) (k : c b d < 0) : c a d < 0 := by
  have h1 := g.trans a b d h (by omega)
  rcases Int.lt_or_eq_of_le h1 with h2 | h2
  · exact h2
  · have e := (g.zero a d).1 h2
    subst e
    have := g.anti a b
    omega

def ordI (a b : Int) : Int := if a < b then -1 else if b < a then 1 else 0
theorem good_ordI : Good ordI := ⟨fun a b => by unfold ordI; split <;> (try split) <;> omega, fun a b => by unfold ordI; split <;> (try split) <;> (try split) <;> omega, fun a b => by unfold ordI; split <;> (try split) <;> omega, fun a b d => by unfold ordI; split <;> (try split) <;> (try split) <;> (try split) <;> (try split) <;> omega⟩
def ordL (a b : List UInt8) : Int := if Op.bytesLess a b = true then -1 else if Op.bytesLess b a = true then 1 else 0
theorem good_ordL : Good ordL := by
  refine ⟨fun a b => by unfold ordL; split <;> (try split) <;> omega, fun a b => ?_, fun a b => ?_, fun a b d => ?_⟩
  · unfold ordL
    cases h : Op.bytesLess a b <;> cases k : Op.bytesLess b a <;> simp
    have := bl_asymm a b h
    rw [this] at k; cases k
  · unfold ordL
    constructor
    · intro h
      cases h1 : Op.bytesLess a b
      · cases h2 : Op.bytesLess b a
        · exact bl_tri a b h1 h2
        · simp [h1, h2] at h
      · simp [h1] at h
    · rintro rfl; simp [bl_irrefl]
  · intro h k
    unfold ordL at *
    cases h2 : Op.bytesLess b a
    · cases k2 : Op.bytesLess d b
      · cases hd : Op.bytesLess a d
        · cases hd2 : Op.bytesLess d a
          · simp
          · exfalso
            -- d < a, a ≤ b, b ≤ d
            cases h1 : Op.bytesLess a b
            · have e := bl_tri a b h1 h2
              subst e
              rw [hd2] at k2; cases k2
            · have := bl_trans d a b hd2 h1
              rw [this] at k2; cases k2
        · simp
      · exfalso
        have := bl_asymm d b k2
        simp [k2, this] at k
    · exfalso
      have := bl_asymm b a h2
      simp [h2, this] at h

/-- One order behind another one. -/
def lex {A B : Type} (c : A → A → Int) (d : B → B → Int) (x y : A × B) : Int := if c x.1 y.1 = 0 then d x.2 y.2 else c x.1 y.1
theorem good_lex {A B : Type} {c : A → A → Int} {d : B → B → Int} (g : Good c) (k : Good d) : Good (lex c d) := by
  refine ⟨fun a b => ?_, fun a b => ?_, fun a b => ?_, fun x y z => ?_⟩
  · unfold lex; split
    · exact k.lo _ _
    · exact g.lo _ _
  · unfold lex
    have h := g.anti a.1 b.1
    by_cases e : c a.1 b.1 = 0
    · rw [if_pos e, if_pos (by omega)]; exact k.anti _ _
    · rw [if_neg e, if_neg (by omega)]; exact h
  · unfold lex
    constructor
    · intro h
      by_cases e : c a.1 b.1 = 0
      · rw [if_pos e] at h
        exact Prod.ext ((g.zero _ _).1 e) ((k.zero _ _).1 h)
      · rw [if_neg e] at h; exact absurd h e
    · rintro rfl
      rw [if_pos ((g.zero _ _).2 rfl)]; exact (k.zero _ _).2 rfl
  · intro h1 h2
    unfold lex at *
    by_cases e1 : c x.1 y.1 = 0
    · by_cases e2 : c y.1 z.1 = 0
      · rw [if_pos e1] at h1
        rw [if_pos e2] at h2
        have a1 := (g.zero _ _).1 e1
        have a2 := (g.zero _ _).1 e2
        rw [if_pos ((g.zero _ _).2 (a1.trans a2))]
        exact k.trans _ _ _ h1 h2
      · rw [if_neg e2] at h2
        have a1 := (g.zero _ _).1 e1
        rw [a1, if_neg e2]; exact h2
    · rw [if_neg e1] at h1
      by_cases e2 : c y.1 z.1 = 0
      · have a2 := (g.zero _ _).1 e2
        rw [← a2, if_neg e1]; exact h1
      · rw [if_neg e2] at h2
        have h3 := g.strict x.1 y.1 z.1 (by omega) h2
        rw [if_neg (by omega)]; omega

def ordV (t n : Int) (s : ByteArray) (t' n' : Int) (s' : ByteArray) : Int := lex ordI (lex ordI ordL) (t, n, s.toList) (t', n', s'.toList)
theorem good_ordV : Good (lex ordI (lex ordI ordL)) := good_lex good_ordI (good_lex good_ordI good_ordL)

end Go.Proofs.YtcnbbmgclphfdaaDoor
