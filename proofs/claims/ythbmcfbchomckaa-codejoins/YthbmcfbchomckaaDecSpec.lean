/- Which row a text is, or which error comes first from the left; what is read is told as the same text again. -/
import Derived.Test.YthbmcfbchomckaaDecEnc
namespace Go.Proofs.Ythbmcfbchomckaa
open Go.RowKit Go.Sort

/-- Is a value's text too long? -/
def tooLong (e : Ent) : Bool := decide (1000 < e.2.2.size)
/-- The row that a text is, behind those values that were read already; or the error. -/
def decL : Nat → List Ent → List UInt8 → List Ent × Int
  | 0, acc, _ => (acc, 0)
  | _ + 1, acc, [] => (acc, 0)
  | f + 1, acc, c :: r =>
    match takeV (c :: r) with
    | none => ([], 10)
    | some p => if tooLong p.1 = true then ([], 8) else if 40 ≤ acc.length then ([], 8) else decL f (acc ++ [p.1]) p.2
def decAll (s : List UInt8) : List Ent × Int := decL s.length [] s

theorem scanT_back : ∀ (s : List UInt8) (p : List UInt8 × List UInt8), scanT s = some p → esc p.1 ++ 0 :: 0 :: p.2 = s
  | [], p, h => by simp [scanT] at h
  | [_], p, h => by simp [scanT] at h
  | a :: b :: r, p, h => by
    rw [scanT] at h
    by_cases ha : a = 0
    · rw [if_pos ha] at h
      by_cases hb : b = 255
      · rw [if_pos hb] at h
        cases hq : scanT r with
        | none => rw [hq] at h; simp at h
        | some q =>
          rw [hq] at h
          simp only [Option.map_some, Option.some.injEq] at h
          subst h
          have ih := scanT_back r q hq
          subst ha hb
          simp only [esc, if_true, List.cons_append]
          rw [ih]
      · rw [if_neg hb] at h
        by_cases hb0 : b = 0
        · rw [if_pos hb0] at h
          simp only [Option.some.injEq] at h
          subst h ha hb0
          rfl
        · rw [if_neg hb0] at h; cases h
    · rw [if_neg ha] at h
      cases hq : scanT (b :: r) with
      | none => rw [hq] at h; simp at h
      | some q =>
        rw [hq] at h
        simp only [Option.map_some, Option.some.injEq] at h
        subst h
        have ih := scanT_back (b :: r) q hq
        simp only [esc, ha, if_false, List.cons_append]
        rw [ih]

theorem encN_beN : ∀ l : List UInt8, l.length = 8 → encN (beN l) = l
  | [a, b, c, d, e, f, g, h], _ => by
    have ha := a.toNat_lt
    have hb := b.toNat_lt
    have hc := c.toNat_lt
    have hd := d.toNat_lt
    have he := e.toNat_lt
    have hf := f.toNat_lt
    have hg := g.toNat_lt
    have hh := h.toNat_lt
    have hB : beN [a, b, c, d, e, f, g, h] = (((((((a.toNat * 256 + b.toNat) * 256 + c.toNat) * 256 + d.toNat) * 256 + e.toNat) * 256 + f.toNat) * 256 + g.toNat) * 256 + h.toNat) := by simp [beN]
    rw [hB]
    have key : ∀ (x : UInt8) (N : Nat), N % 256 = x.toNat → UInt8.ofNat N = x := fun x N hx => by
      rw [← UInt8.toNat_inj]; simpa using hx
    simp only [encN, List.cons.injEq, and_true]
    refine ⟨key _ _ ?_, key _ _ ?_, key _ _ ?_, key _ _ ?_, key _ _ ?_, key _ _ ?_, key _ _ ?_, key _ _ ?_⟩ <;> omega
theorem decI_in {l : List UInt8} (h : l.length = 8) : inR (decI l) := by
  have := beN_lt l
  rw [h] at this
  have e : (256 : Nat) ^ 8 = 18446744073709551616 := by decide
  rw [e] at this
  unfold inR decI
  omega
theorem encI_decI {l : List UInt8} (h : l.length = 8) : encI (decI l) = l := by
  unfold encI decI
  have : ((beN l : Int) - 9223372036854775808 + 9223372036854775808).toNat = beN l := by omega
  rw [this, encN_beN l h]

/-- What is taken from the front is right, but for texts too long, and its bytes are what is taken. -/
theorem takeV_back {s : List UInt8} {p : Ent × List UInt8} (h : takeV s = some p) : (tooLong p.1 = false → Sound p.1) ∧ encV p.1 ++ p.2 = s := by
  cases s with
  | nil => simp [takeV] at h
  | cons c r =>
    rw [takeV] at h
    by_cases h1 : c = 1
    · rw [if_pos h1] at h
      simp only [Option.some.injEq] at h
      subst h h1
      exact ⟨fun _ => ⟨by simp [rightE, ByteArray.toList_eq], by unfold inR; dsimp only; omega, by unfold inR; dsimp only; omega⟩, rfl⟩
    rw [if_neg h1] at h
    by_cases h2 : c = 2
    · rw [if_pos h2] at h
      simp only [Option.some.injEq] at h
      subst h h2
      exact ⟨fun _ => ⟨by simp [rightE, ByteArray.toList_eq], by unfold inR; dsimp only; omega, by unfold inR; dsimp only; omega⟩, rfl⟩
    rw [if_neg h2] at h
    by_cases h3 : c = 3
    · rw [if_pos h3] at h
      simp only [Option.some.injEq] at h
      subst h h3
      exact ⟨fun _ => ⟨by simp [rightE, ByteArray.toList_eq], by unfold inR; dsimp only; omega, by unfold inR; dsimp only; omega⟩, rfl⟩
    rw [if_neg h3] at h
    by_cases h4 : c = 4
    · rw [if_pos h4] at h
      by_cases h8 : r.length < 8
      · rw [if_pos h8] at h; cases h
      · rw [if_neg h8] at h
        simp only [Option.some.injEq] at h
        subst h h4
        have hl : (r.take 8).length = 8 := by simp; omega
        refine ⟨fun _ => ⟨?_, by unfold inR; dsimp only; omega, decI_in hl⟩, ?_⟩
        · simp [rightE, ByteArray.toList_eq]
        · show 4 :: (encI (decI (r.take 8)) ++ r.drop 8) = 4 :: r
          rw [encI_decI hl, List.take_append_drop]
    rw [if_neg h4] at h
    by_cases h5 : c = 5
    · rw [if_pos h5] at h
      cases hq : scanT r with
      | none => rw [hq] at h; simp at h
      | some q =>
        rw [hq] at h
        simp only [Option.map_some, Option.some.injEq] at h
        subst h h5
        refine ⟨fun ht => ⟨?_, by unfold inR; dsimp only; omega, by unfold inR; dsimp only; omega⟩, ?_⟩
        · have : ¬ 1000 < (ByteArray.mk q.1.toArray).size := of_decide_eq_false ht
          simp [rightE, this]
        · show 5 :: ((esc q.1 ++ [0, 0]) ++ q.2) = 5 :: r
          have := scanT_back r q hq
          rw [← this]
          simp
    · rw [if_neg h5] at h; cases h
theorem takeV_shorter {s : List UInt8} {p : Ent × List UInt8} (h : takeV s = some p) : p.2.length < s.length := by
  have := (takeV_back h).2
  have hp := List.length_pos_iff.2 (encV_ne p.1)
  rw [← this, List.length_append]
  omega

theorem decL_back : ∀ (f : Nat) (acc : List Ent) (s : List UInt8) (l : List Ent), s.length ≤ f → decL f acc s = (l, 0) → acc.length ≤ 40 → (∀ e ∈ acc, Sound e) →
    (∀ e ∈ l, Sound e) ∧ l.length ≤ 40 ∧ encRow acc ++ s = encRow l
  | f, acc, [], l, _, h, ha, hs => by
    have : decL f acc [] = (acc, 0) := by cases f <;> rfl
    rw [this] at h
    simp only [Prod.mk.injEq, and_true] at h
    subst h
    exact ⟨hs, ha, by simp⟩
  | 0, acc, c :: r, l, hf, _, _, _ => by simp at hf
  | f + 1, acc, c :: r, l, hf, h, ha, hs => by
    unfold decL at h
    cases hq : takeV (c :: r) with
    | none => rw [hq] at h; simp at h
    | some p =>
      rw [hq] at h
      simp only at h
      have hb := takeV_back hq
      have hsh := takeV_shorter hq
      by_cases ht : tooLong p.1 = true
      · rw [if_pos ht] at h; simp at h
      · rw [if_neg ht] at h
        by_cases h40 : 40 ≤ acc.length
        · rw [if_pos h40] at h; simp at h
        · rw [if_neg h40] at h
          have hp : Sound p.1 := hb.1 (by simpa using ht)
          obtain ⟨g1, g2, g3⟩ := decL_back f (acc ++ [p.1]) p.2 l (by simp at hf hsh; omega) h (by simp; omega) (fun e he => by
            rcases List.mem_append.1 he with he | he
            · exact hs e he
            · simp only [List.mem_singleton] at he; rw [he]; exact hp)
          refine ⟨g1, g2, ?_⟩
          rw [← g3, ← hb.2]
          simp [encRow]
theorem decAll_back {s : List UInt8} {l : List Ent} (h : decAll s = (l, 0)) : (∀ e ∈ l, Sound e) ∧ l.length ≤ 40 ∧ encRow l = s := by
  obtain ⟨h1, h2, h3⟩ := decL_back s.length [] s l (Nat.le_refl _) h (by simp) (fun e he => by cases he)
  exact ⟨h1, h2, by rw [← h3]; rfl⟩
/-- One step. -/
theorem decL_step {f : Nat} {acc : List Ent} {s : List UInt8} (hs : s ≠ []) (hf : s.length ≤ f) :
    decL f acc s = match takeV s with
      | none => ([], 10)
      | some p => if tooLong p.1 = true then ([], 8) else if 40 ≤ acc.length then ([], 8) else decL (f - 1) (acc ++ [p.1]) p.2 := by
  cases s with
  | nil => exact absurd rfl hs
  | cons c r =>
    cases f with
    | zero => simp at hf
    | succ f => rfl
theorem decL_err : ∀ (f : Nat) (acc : List Ent) (s : List UInt8), (decL f acc s).2 ≠ 0 → (decL f acc s).1 = []
  | 0, acc, s, h => absurd rfl h
  | f + 1, acc, [], h => absurd rfl h
  | f + 1, acc, c :: r, h => by
    unfold decL at h ⊢
    cases hq : takeV (c :: r) with
    | none => rfl
    | some p =>
      rw [hq] at h
      simp only at h ⊢
      by_cases ht : tooLong p.1 = true
      · rw [if_pos ht]
      · rw [if_neg ht] at h ⊢
        by_cases h40 : 40 ≤ acc.length
        · rw [if_pos h40]
        · rw [if_neg h40] at h ⊢
          exact decL_err f _ _ h

end Go.Proofs.Ythbmcfbchomckaa
