/- The bytes of right rows stand as the rows do. -/
import Derived.Test.YtcnbbmgclphfdaaDoorOrdRow
import Derived.Test.YtcnbbmgclphfdaaDoorOne
import Derived.Test.YtcnbbmgclphfdaaDoorSound
namespace Go.Proofs.YtcnbbmgclphfdaaDoor
open Go.RowKit Go.Sort

/-- One list of bytes is ahead of another one at a byte that both have. -/
def Ahead : List UInt8 → List UInt8 → Prop
  | x :: u, y :: v => x < y ∨ (x = y ∧ Ahead u v)
  | _, _ => False
theorem Ahead.less : ∀ {u v : List UInt8} (x y : List UInt8), Ahead u v → Op.bytesLess (u ++ x) (v ++ y) = true
  | a :: u, b :: v, x, y, h => by
    rcases h with h | ⟨rfl, h⟩
    · simp [Op.bytesLess, h]
    · have := Ahead.less x y h
      simp [Op.bytesLess, this]
theorem Ahead.pre (p : List UInt8) {u v : List UInt8} (h : Ahead u v) : Ahead (p ++ u) (p ++ v) := by
  induction p with
  | nil => exact h
  | cons a p ih => exact .inr ⟨rfl, ih⟩
theorem Ahead.behind {u v : List UInt8} (x y : List UInt8) (h : Ahead u v) : Ahead (u ++ x) (v ++ y) := by
  induction u generalizing v with
  | nil => cases v <;> exact absurd h (by simp [Ahead])
  | cons a u ih =>
    cases v with
    | nil => exact absurd h (by simp [Ahead])
    | cons b v =>
      rcases h with h | ⟨rfl, h⟩
      · exact .inl h
      · exact .inr ⟨rfl, ih h⟩
theorem less_pre (p u v : List UInt8) : Op.bytesLess (p ++ u) (p ++ v) = Op.bytesLess u v := by
  induction p with
  | nil => rfl
  | cons a p ih => simp [Op.bytesLess, ih, UInt8.lt_irrefl]

theorem ofNat_lt {d e : Nat} (h : d % 256 < e % 256) : UInt8.ofNat d < UInt8.ofNat e := by
  rw [UInt8.lt_iff_toNat_lt]
  simpa using h
theorem ofNat_eq {d e : Nat} (h : d % 256 = e % 256) : UInt8.ofNat d = UInt8.ofNat e := by
  rw [← UInt8.toNat_inj]
  simpa using h

theorem tail_ahead (B C : Nat) : ∀ k, B % 256 ^ k < C % 256 ^ k → Ahead (tailN B k) (tailN C k)
  | 0, h => by simp [Nat.mod_one] at h
  | k + 1, h => by
    rw [Nat.pow_succ, Nat.mod_mul, Nat.mod_mul] at h
    have hP : 0 < 256 ^ k := Nat.pow_pos (by decide)
    have h1 := Nat.mod_lt B hP
    have h2 := Nat.mod_lt C hP
    rcases Nat.lt_trichotomy (B / 256 ^ k % 256) (C / 256 ^ k % 256) with hd | hd | hd
    · exact .inl (ofNat_lt hd)
    · refine .inr ⟨ofNat_eq hd, tail_ahead B C k ?_⟩
      rw [hd] at h
      omega
    · exfalso
      have := Nat.mul_le_mul_left (256 ^ k) (Nat.succ_le_of_lt hd)
      rw [Nat.mul_succ] at this
      omega
theorem encI_ahead {n m : Int} (hn : inR n) (hm : inR m) (h : n < m) : Ahead (encI n) (encI m) := by
  unfold inR at hn hm
  unfold encI
  rw [← tailN_all, ← tailN_all]
  refine tail_ahead _ _ 8 ?_
  have e : (256 : Nat) ^ 8 = 18446744073709551616 := by decide
  rw [e]
  omega

theorem esc_ahead : ∀ (s r : List UInt8), Op.bytesLess s r = true → Ahead (esc s ++ [0, 0]) (esc r ++ [0, 0])
  | [], [], h => by simp [Op.bytesLess] at h
  | [], b :: r, _ => by
    by_cases hb : b = 0
    · simp only [esc, hb, if_true, List.nil_append, List.cons_append]
      exact .inr ⟨rfl, .inl (by decide)⟩
    · simp only [esc, hb, if_false, List.nil_append, List.cons_append]
      exact .inl (UInt8.pos_iff_ne_zero.2 hb)
  | _ :: _, [], h => by simp [Op.bytesLess] at h
  | a :: s, b :: r, h => by
    simp only [Op.bytesLess, Bool.or_eq_true, Bool.and_eq_true, decide_eq_true_eq, beq_iff_eq] at h
    rcases h with h | ⟨rfl, h⟩
    · have hb : ¬ b = 0 := fun e => by subst e; exact absurd h (UInt8.not_lt.2 (UInt8.zero_le))
      by_cases ha : a = 0
      · subst ha
        simp only [esc, hb, if_true, if_false, List.cons_append]
        exact .inl h
      · simp only [esc, hb, ha, if_false, List.cons_append]
        exact .inl h
    · have ih := esc_ahead s r h
      by_cases ha : a = 0
      · subst ha
        simp only [esc, if_true, List.cons_append]
        exact .inr ⟨rfl, .inr ⟨rfl, ih⟩⟩
      · simp only [esc, ha, if_false, List.cons_append]
        exact .inr ⟨rfl, ih⟩

theorem ordE_zero {e f : Ent} (h : ordE e f = 0) : e = f := by
  have := (good_ordV.zero (e.1, e.2.1, e.2.2.toList) (f.1, f.2.1, f.2.2.toList)).1 h
  simp only [Prod.mk.injEq] at this
  obtain ⟨h1, h2, h3⟩ := this
  rw [ByteArray.toList_eq, ByteArray.toList_eq] at h3
  obtain ⟨t, n, s⟩ := e
  obtain ⟨t', n', s'⟩ := f
  simp only at h1 h2 h3
  have : s = s' := by cases s; cases s'; simp only [ByteArray.mk.injEq]; exact Array.toList_inj.1 h3
  rw [h1, h2, this]
theorem ordE_self (e : Ent) : ordE e e = 0 := (good_ordV.zero (e.1, e.2.1, e.2.2.toList) (e.1, e.2.1, e.2.2.toList)).2 rfl
theorem ordE_anti (e f : Ent) : ordE e f = -ordE f e := good_ordV.anti (e.1, e.2.1, e.2.2.toList) (f.1, f.2.1, f.2.2.toList)

theorem encV_ahead {e f : Ent} (he : Sound e) (hf : Sound f) (h : ordE e f < 0) : Ahead (encV e) (encV f) := by
  obtain ⟨t, n, s⟩ := e
  obtain ⟨t', n', s'⟩ := f
  obtain ⟨r1, i1, i2⟩ := he
  obtain ⟨r2, j1, j2⟩ := hf
  simp only at r1 i1 i2 r2 j1 j2
  have k1 := right_kinds r1
  have k2 := right_kinds r2
  have ho : ordE (t, n, s) (t', n', s') = or3i (ordI t t') (ordI n n') (ordL s.toList s'.toList) := rfl
  rw [ho] at h
  rcases Int.lt_trichotomy t t' with ht | ht | ht
  · -- the types stand so
    rcases k1 with rfl | ⟨rfl, hn⟩ | rfl | rfl <;> rcases k2 with rfl | ⟨rfl, hn'⟩ | rfl | rfl <;> (try omega)
    all_goals
      first
        | (rcases hn with rfl | rfl <;> simp [encV, Ahead] <;> decide)
        | (rcases hn' with rfl | rfl <;> simp [encV, Ahead] <;> decide)
        | (simp [encV, Ahead] <;> decide)
  · subst ht
    have h0 : ordI t t = 0 := (good_ordI.zero t t).2 rfl
    rw [h0] at h
    simp only [or3i, if_true] at h
    rcases k1 with rfl | ⟨rfl, hn⟩ | rfl | rfl
    · -- null: one value
      have a1 : n = 0 ∧ s.toList = [] := by
        by_cases c : n = 0 ∧ s.toList = []
        · exact c
        · simp [rightE, c] at r1
      have a2 : n' = 0 ∧ s'.toList = [] := by
        by_cases c : n' = 0 ∧ s'.toList = []
        · exact c
        · simp [rightE, c] at r2
      rw [a1.1, a1.2, a2.1, a2.2] at h
      simp [ordI, ordL, Op.bytesLess] at h
    · have hn' : n' = 0 ∨ n' = 1 := by
        rcases k2 with k | ⟨_, k⟩ | k | k
        · omega
        · exact k
        · omega
        · omega
      have a1 : s.toList = [] := by
        by_cases c : s.toList = []
        · exact c
        · simp [rightE, c] at r1
      have a2 : s'.toList = [] := by
        by_cases c : s'.toList = []
        · exact c
        · simp [rightE, c] at r2
      rw [a1, a2] at h
      rcases hn with rfl | rfl <;> rcases hn' with rfl | rfl <;> simp [ordI, ordL, Op.bytesLess] at h
      simp [encV, Ahead]
    · have a1 : s.toList = [] := by
        by_cases c : s.toList = []
        · exact c
        · simp [rightE, c] at r1
      have a2 : s'.toList = [] := by
        by_cases c : s'.toList = []
        · exact c
        · simp [rightE, c] at r2
      rw [a1, a2] at h
      have hnn : n < n' := by
        rcases Int.lt_trichotomy n n' with c | c | c
        · exact c
        · subst c; simp [ordI, ordL, Op.bytesLess] at h
        · have c' : ¬ n < n' := by omega
          simp [ordI, c, c'] at h
      exact .inr ⟨rfl, encI_ahead i2 j2 hnn⟩
    · have a1 : n = 0 := by
        by_cases c : n = 0
        · exact c
        · simp [rightE, c] at r1
      have a2 : n' = 0 := by
        by_cases c : n' = 0
        · exact c
        · simp [rightE, c] at r2
      subst a1 a2
      have hl : Op.bytesLess s.data.toList s'.data.toList = true := by
        rw [ByteArray.toList_eq, ByteArray.toList_eq] at h
        cases c : Op.bytesLess s.data.toList s'.data.toList
        · cases c' : Op.bytesLess s'.data.toList s.data.toList <;> simp [ordI, ordL, c, c'] at h
        · rfl
      exact .inr ⟨rfl, esc_ahead _ _ hl⟩
  · exfalso
    have c' : ¬ t < t' := by omega
    simp [or3i, ordI, ht, c'] at h

/-- The bytes of right rows stand as the rows do. -/
theorem enc_less : ∀ (l m : List Ent), (∀ e ∈ l, Sound e) → (∀ e ∈ m, Sound e) → Op.bytesLess (encRow l) (encRow m) = decide (ordRow l m < 0)
  | [], [], _, _ => by simp [encRow, ordRow, Op.bytesLess]
  | [], f :: m, _, _ => by
    have : ∃ x u, encRow (f :: m) = x :: u := by
      have h : encRow (f :: m) = encV f ++ encRow m := rfl
      rw [h]
      unfold encV
      split
      · exact ⟨_, _, rfl⟩
      split
      · exact ⟨_, _, rfl⟩
      split
      · exact ⟨_, _, rfl⟩
      · exact ⟨_, _, rfl⟩
    obtain ⟨x, u, hx⟩ := this
    rw [hx]
    simp [encRow, ordRow, Op.bytesLess]
  | e :: l, [], _, _ => by
    simp [encRow, ordRow, Op.bytesLess]
  | e :: l, f :: m, hl, hm => by
    have ih := enc_less l m (fun x hx => hl x (List.mem_cons_of_mem _ hx)) (fun x hx => hm x (List.mem_cons_of_mem _ hx))
    have he := hl e (List.mem_cons_self ..)
    have hf := hm f (List.mem_cons_self ..)
    have h1 : encRow (e :: l) = encV e ++ encRow l := rfl
    have h2 : encRow (f :: m) = encV f ++ encRow m := rfl
    rw [h1, h2]
    by_cases hz : ordE e f = 0
    · have := ordE_zero hz
      subst this
      rw [less_pre, ih]
      simp [ordRow, hz]
    · have hr : ordRow (e :: l) (f :: m) = ordE e f := by simp [ordRow, hz]
      rw [hr]
      rcases Int.lt_trichotomy (ordE e f) 0 with h | h | h
      · rw [(encV_ahead he hf h).less]
        simp [h]
      · exact absurd h hz
      · have ha := encV_ahead hf he (by rw [ordE_anti]; omega)
        rw [bl_asymm _ _ (ha.less (encRow m) (encRow l))]
        simp; omega

theorem ordRow_anti : ∀ l m : List Ent, ordRow m l = -ordRow l m
  | [], [] => rfl
  | [], _ :: _ => rfl
  | _ :: _, [] => rfl
  | e :: l, f :: m => by
    have h := ordE_anti e f
    have ih := ordRow_anti l m
    by_cases hz : ordE e f = 0
    · have hz' : ordE f e = 0 := by omega
      simp [ordRow, hz, hz', ih]
    · have hz' : ¬ ordE f e = 0 := by omega
      simp [ordRow, hz, hz']
      omega
theorem ordRow_range : ∀ l m : List Ent, -1 ≤ ordRow l m ∧ ordRow l m ≤ 1
  | [], [] => by simp [ordRow]
  | [], _ :: _ => by simp [ordRow]
  | _ :: _, [] => by simp [ordRow]
  | e :: l, f :: m => by
    have ih := ordRow_range l m
    by_cases hz : ordE e f = 0
    · simp [ordRow, hz, ih]
    · have h1 := good_ordV.lo (e.1, e.2.1, e.2.2.toList) (f.1, f.2.1, f.2.2.toList)
      have h2 := good_ordV.hi (e.1, e.2.1, e.2.2.toList) (f.1, f.2.1, f.2.2.toList)
      have hr : ordRow (e :: l) (f :: m) = ordE e f := by simp [ordRow, hz]
      rw [hr]
      exact ⟨h1, h2⟩
theorem sameV_iff (e f : Ent) : sameV e f = decide (ordE e f = 0) := by
  by_cases h : ordE e f = 0
  · have := ordE_zero h
    subst this
    simp [sameV, veq, h]
  · have : sameV e f = false := by
      cases c : sameV e f
      · rfl
      · exfalso
        simp only [sameV, veq, Bool.and_eq_true, beq_iff_eq] at c
        exact h ((good_ordV.zero (e.1, e.2.1, e.2.2.toList) (f.1, f.2.1, f.2.2.toList)).2 (by rw [c.1.1, c.1.2, c.2]))
    rw [this]
    simp [h]
theorem sameB_iff : ∀ l m : List Ent, sameB l m = decide (ordRow l m = 0)
  | [], [] => by simp [sameB, ordRow]
  | [], _ :: _ => by simp [sameB, ordRow]
  | _ :: _, [] => by simp [sameB, ordRow]
  | e :: l, f :: m => by
    have ih := sameB_iff l m
    by_cases hz : ordE e f = 0
    · simp [sameB, ordRow, hz, ih, sameV_iff]
    · simp [sameB, ordRow, hz, sameV_iff]

end Go.Proofs.YtcnbbmgclphfdaaDoor
