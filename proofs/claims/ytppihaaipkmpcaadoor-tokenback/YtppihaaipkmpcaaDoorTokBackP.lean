/- Names, numbers and marks with blanks between are scanned as they are: plain mathematics. -/
import Derived.Test.YtppihaaipkmpcaaDoorAlive5
namespace Go.Proofs.YtppihaaipkmpcaaDoor
open Go.RowKit Go.Sort

theorem scanF_many : ∀ (f : Nat) (l : List UInt8) (o k : Nat), k ≤ 6000 → (scanF f l o k).1.length + k ≤ 6001
  | 0, _, _, k, hk => by simp [scanF]; omega
  | f + 1, [], o, k, hk => by
    unfold scanF
    split <;> simp <;> omega
  | f + 1, c :: r, o, k, hk => by
    unfold scanF
    split
    · exact scanF_many f _ _ _ hk
    · split
      · exact scanF_many f _ _ _ hk
      · split
        · simp; omega
        · split
          · simp; omega
          · rename_i h6
            unfold aheadT
            split
            · have := scanF_many f ((c :: r).drop ‹Nat›) (o + ‹Nat›) (k + 1) (by omega)
              simp; omega
            · simp; omega
theorem scanS_many (s : ByteArray) : (scanS s).1.length ≤ 6001 := by
  unfold scanS
  split
  · simp
  · have := scanF_many (s.size + 1) s.data.toList 0 0 (by omega)
    omega
theorem runN_take {p : UInt8 → Bool} : ∀ (l : List UInt8) (c : UInt8) (r : List UInt8), p c = false → runN p (l.take (runN p l) ++ c :: r) = runN p l
  | [], c, r, h => by simp [runN, h]
  | a :: l, c, r, h => by
    by_cases ha : p a = true
    · have hr : runN p (a :: l) = runN p l + 1 := by rw [runN, if_pos ha]
      rw [hr, List.take_succ_cons, List.cons_append, runN, if_pos ha, runN_take l c r h]
    · have hr : runN p (a :: l) = 0 := by rw [runN, if_neg ha]
      rw [hr, List.take_zero, List.nil_append, runN, if_neg (by rw [h]; decide)]
theorem runN_len {p : UInt8 → Bool} (l : List UInt8) : (l.take (runN p l)).length = runN p l := by
  rw [List.length_take]
  exact Nat.min_eq_left (runN_le p l)
theorem take_head {c : UInt8} {r : List UInt8} {n : Nat} (h : 0 < n) : ∃ q, (c :: r).take n = c :: q := by
  cases n with
  | zero => omega
  | succ n => exact ⟨r.take n, rfl⟩
theorem marks_back : ∀ m ∈ marksL, ∀ r : List UInt8, oneL (m ++ 32 :: r) = .inl (4, m, 0, m.length) ∧ ∃ c q, m = c :: q ∧ blankB c = false ∧ ¬ (c.toNat = 45 ∧ (q ++ 32 :: r).head?.map UInt8.toNat = some 45) := by
  intro m hm r
  simp only [marksL, List.mem_cons, List.not_mem_nil, or_false] at hm
  rcases hm with rfl | rfl | rfl | rfl | rfl | rfl | rfl | rfl | rfl | rfl | rfl | rfl | rfl | rfl | rfl | rfl | rfl | rfl | rfl | rfl
  all_goals
    refine ⟨rfl, _, _, rfl, by decide, ?_⟩
    intro h
    first
      | exact absurd h.1 (by decide)
      | (have := h.2; simp at this)
/-- A token that is no text is read again where it stands with a blank behind it. -/
theorem one_again {l : List UInt8} {kind : Int} {t : List UInt8} {n len : Nat} (h : oneL l = .inl (kind, t, n, len)) (h3 : kind ≠ 3) (r : List UInt8) :
    oneL (t ++ 32 :: r) = .inl (kind, t, n, t.length) ∧ t.length ≤ 30 ∧ ∃ c q, t = c :: q ∧ blankB c = false ∧ ¬ (c.toNat = 45 ∧ (q ++ 32 :: r).head?.map UInt8.toNat = some 45) := by
  cases l with
  | nil => cases h
  | cons c l =>
    replace h : oneC c l = .inl (kind, t, n, len) := h
    unfold oneC at h
    split at h
    · rename_i hc
      split at h
      · cases h
      · rename_i h30
        simp only [Sum.inl.injEq, Prod.mk.injEq] at h
        obtain ⟨rfl, rfl, rfl, rfl⟩ := h
        have hp : 0 < runN (fun d => digitB d || letterB d) (c :: l) := runN_pos (by simp [hc])
        obtain ⟨q, hq⟩ := take_head (c := c) (r := l) hp
        have hr := runN_take (p := fun d => digitB d || letterB d) (c :: l) 32 r (by decide)
        have hlen := runN_len (p := fun d => digitB d || letterB d) (c :: l)
        generalize runN (fun d => digitB d || letterB d) (c :: l) = k at *
        rw [hq] at hr hlen ⊢
        refine ⟨?_, by omega, c, q, rfl, ?_, ?_⟩
        · show oneC c (q ++ 32 :: r) = _
          unfold oneC
          rw [if_pos hc, ← List.cons_append, hr, if_neg h30, hlen, ← hlen, List.take_left]
        · cases hb : blankB c with
          | false => rfl
          | true => simp [blankB, letterB] at hb hc; omega
        · intro h45
          simp [letterB] at hc
          omega
    · rename_i hnl
      split at h
      · rename_i hc
        split at h
        · cases h
        · rename_i h18
          simp only [Sum.inl.injEq, Prod.mk.injEq] at h
          obtain ⟨rfl, rfl, rfl, rfl⟩ := h
          have hp : 0 < runN digitB (c :: l) := runN_pos hc
          obtain ⟨q, hq⟩ := take_head (c := c) (r := l) hp
          have hr := runN_take (p := digitB) (c :: l) 32 r (by decide)
          have hlen := runN_len (p := digitB) (c :: l)
          generalize runN digitB (c :: l) = k at *
          rw [hq] at hr hlen ⊢
          refine ⟨?_, by omega, c, q, rfl, ?_, ?_⟩
          · show oneC c (q ++ 32 :: r) = _
            unfold oneC
            rw [if_neg hnl, if_pos hc, ← List.cons_append, hr, if_neg h18, hlen, ← hlen, List.take_left]
          · cases hb : blankB c with
            | false => rfl
            | true => simp [blankB, digitB] at hb hc; omega
          · intro h45
            simp [digitB] at hc
            omega
      · split at h
        · split at h
          · simp only [Sum.inl.injEq, Prod.mk.injEq] at h
            exact absurd h.1.symm h3
          · cases h
        · split at h
          · rename_i m e
            simp only [Sum.inl.injEq, Prod.mk.injEq] at h
            obtain ⟨rfl, rfl, rfl, rfl⟩ := h
            have hm := List.mem_of_find?_eq_some e
            obtain ⟨h1, h2⟩ := marks_back m hm r
            exact ⟨h1, Nat.le_trans ((by decide : ∀ m ∈ marksL, m.length ≤ 2) m hm) (by decide), h2⟩
          · cases h

/-- A token that was read. -/
def GoodT (x : Tk) : Prop := ∃ l n len, oneL l = .inl (x.1, x.2.1.data.toList, n, len) ∧ x.2.2.1 = (n : Int)
def keyT (x : Tk) : Int × ByteArray × Int := (x.1, x.2.1, x.2.2.1)
theorem scanF_good : ∀ (f : Nat) (l : List UInt8) (o k : Nat) (A : List Tk) (p : Nat), scanF f l o k = (A, p, 0) → ∃ T e, A = T ++ [((0, ⟨#[]⟩, 0, e) : Tk)] ∧ (∀ x ∈ T, GoodT x) ∧ k + T.length < 6000
  | 0, _, _, _, A, p, h => by simp [scanF] at h
  | f + 1, [], o, k, A, p, h => by
    unfold scanF at h
    split at h
    · simp at h
    · rename_i h6
      simp only [Prod.mk.injEq, and_true] at h
      exact ⟨[], (o : Int), h.1.symm, fun x hx => absurd hx (by simp), by simp; omega⟩
  | f + 1, c :: r, o, k, A, p, h => by
    unfold scanF at h
    split at h
    · exact scanF_good f _ _ _ A p h
    · split at h
      · exact scanF_good f _ _ _ A p h
      · split at h
        · simp at h
        · rename_i kind t n len e
          split at h
          · simp at h
          · rename_i h6
            unfold aheadT at h
            split at h
            · rename_i hz
              generalize hr : scanF f ((c :: r).drop len) (o + len) (k + 1) = res at h hz
              obtain ⟨A', p', e'⟩ := res
              dsimp only at h hz
              subst hz
              obtain ⟨T, en, hT, hg, hk⟩ := scanF_good f _ _ _ A' p' hr
              simp only [Prod.mk.injEq, and_true] at h
              refine ⟨(kind, ⟨t.toArray⟩, (n : Int), (o : Int)) :: T, en, by rw [← h.1, hT]; rfl, fun x hx => ?_, by simp; omega⟩
              rcases List.mem_cons.1 hx with rfl | hx
              · exact ⟨c :: r, n, len, by simpa using e, rfl⟩
              · exact hg x hx
            · rename_i hz
              simp only [Prod.mk.injEq] at h
              exact absurd (by rw [h.2]) hz

/-- Texts of tokens with a blank behind each. -/
def backL (A : List Tk) : List UInt8 := A.flatMap fun x => x.2.1.data.toList ++ [32]
theorem scan_back : ∀ (T : List Tk) (o k : Nat), (∀ x ∈ T, GoodT x) → (∀ x ∈ T, x.1 ≠ 3) → k + T.length < 6000 → ∃ B, scanR (backL T ++ [32]) o k = (B, 0, 0) ∧ B.map keyT = T.map keyT ++ [(0, ⟨#[]⟩, 0)]
  | [], o, k, _, _, hk => by
    refine ⟨[(0, ⟨#[]⟩, 0, ((o + 1 : Nat) : Int))], ?_, rfl⟩
    show scanR (32 :: []) o k = _
    rw [scanR_blank (by decide), scanR_nil, if_neg (by simp at hk; omega)]
  | x :: T, o, k, hg, h3, hk => by
    obtain ⟨l, n, len, ho, hn⟩ := hg x (List.mem_cons_self ..)
    obtain ⟨h1, _, c, q, ht, hb, hm⟩ := one_again ho (h3 x (List.mem_cons_self ..)) (backL T ++ [32])
    simp only [List.length_cons] at hk
    obtain ⟨B, hB, hBk⟩ := scan_back T (o + x.2.1.data.toList.length + 1) (k + 1) (fun y hy => hg y (List.mem_cons_of_mem _ hy)) (fun y hy => h3 y (List.mem_cons_of_mem _ hy)) (by omega)
    have hc : backL (x :: T) ++ [32] = x.2.1.data.toList ++ 32 :: (backL T ++ [32]) := by simp [backL]
    refine ⟨(x.1, x.2.1, x.2.2.1, (o : Int)) :: B, ?_, by simp [hBk, keyT]⟩
    rw [hc]
    have hs := scanR_one (c := c) (r := q ++ 32 :: (backL T ++ [32])) (o := o) (k := k) hb hm
    rw [← List.cons_append, ← ht, h1] at hs
    rw [hs]
    simp only
    rw [if_neg (by omega), List.drop_left, scanR_blank (by decide), hB]
    simp [aheadT, hn]
theorem back_scan {s : ByteArray} {A : List Tk} {p : Nat} (h : scanS s = (A, p, 0)) (h3 : ∀ x ∈ A, x.1 ≠ 3) (hs : (backL A).length ≤ 20000) : ∃ B, scanS ⟨(backL A).toArray⟩ = (B, 0, 0) ∧ B.map keyT = A.map keyT := by
  unfold scanS at h
  split at h
  · simp at h
  · obtain ⟨T, e, rfl, hg, hk⟩ := scanF_good _ _ _ _ _ _ h
    obtain ⟨B, hB, hBk⟩ := scan_back T 0 0 hg (fun x hx => h3 x (List.mem_append_left _ hx)) hk
    have hc : backL (T ++ [((0, ⟨#[]⟩, 0, e) : Tk)]) = backL T ++ [32] := by simp [backL]
    rw [hc] at hs ⊢
    refine ⟨B, ?_, by rw [hBk]; simp [keyT]⟩
    rw [scanS_eq (by simpa [ByteArray.size] using hs)]
    exact hB
theorem back_short {s : ByteArray} {A : List Tk} {p : Nat} {er : Int} (h : scanS s = (A, p, er)) : ∀ x ∈ A, x.1 ≠ 3 → x.2.1.size ≤ 30 := by
  intro x hx h3
  unfold scanS at h
  split at h
  · simp only [Prod.mk.injEq] at h
    rw [← h.1] at hx
    simp at hx
  · by_cases he : er = 0
    · subst he
      obtain ⟨T, e, rfl, hg, _⟩ := scanF_good _ _ _ _ _ _ h
      rcases List.mem_append.1 hx with hx | hx
      · obtain ⟨l, n, len, ho, _⟩ := hg x hx
        have := (one_again ho h3 []).2.1
        rw [Array.length_toList] at this
        exact this
      · simp only [List.mem_singleton] at hx
        subst hx
        exact Nat.zero_le _
    · have := (scanF_form (s.size + 1) s.data.toList 0 0).2
      rw [h] at this
      have hA : A = [] := this he
      rw [hA] at hx
      simp at hx

end Go.Proofs.YtppihaaipkmpcaaDoor
