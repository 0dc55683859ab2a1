/- Contracts of the document's own texts, ints and Order. -/
import Derived.Test.YtalfeggddfpgeaaDoorOrdCmp
import Derived.Test.YtalfeggddfpgeaaDoorBytes
namespace Go.Proofs.YtalfeggddfpgeaaDoor
open Go.RowKit Go.Sort

theorem ints_any (x y : Int) (w : World) : Calls Tryd.prog 30 #[.int .i64 x, .int .i64 y] w fun e w' => e = .returned (.int .i64 (ordI x y)) ∧ w' = w := by
  rcases (show x < y ∨ y < x ∨ x = y by omega) with h | h | rfl
  · have e : Hid (ordI x y = -1) := by show ordI x y = -1; simp [ordI, h]
    go_enter Tryd.func30, Tryd.ntmps30
    go_wp2
    go_ret
    exact ⟨ret_int e.out.symm, rfl⟩
  · have e : Hid (ordI x y = 1) := by show ordI x y = 1; have : ¬ x < y := by omega
                                      simp [ordI, h, this]
    go_enter Tryd.func30, Tryd.ntmps30
    go_wp2
    go_ret
    exact ⟨ret_int e.out.symm, rfl⟩
  · have e : Hid (ordI x x = 0) := by show ordI x x = 0; simp [ordI]
    go_enter Tryd.func30, Tryd.ntmps30
    go_wp2
    go_ret
    exact ⟨ret_int e.out.symm, rfl⟩

theorem ordL_cons (x y : UInt8) (a b : List UInt8) : ordL (x :: a) (y :: b) = if x = y then ordL a b else if x < y then -1 else 1 := by
  unfold ordL
  by_cases h : x = y
  · subst h; simp [Op.bytesLess, UInt8.lt_irrefl]
  · rcases UInt8.lt_or_lt_of_ne h with k | k
    · have : ¬ y < x := UInt8.not_lt.2 (UInt8.le_of_lt k)
      simp [Op.bytesLess, h, k]
    · have h1 : ¬ x < y := UInt8.not_lt.2 (UInt8.le_of_lt k)
      have h2 : ¬ y = x := fun e => h e.symm
      simp [Op.bytesLess, h, k, h1]
theorem ordL_nil_left (b : List UInt8) : ordL [] b = if b = [] then 0 else -1 := by cases b <;> simp [ordL, Op.bytesLess]
theorem ordL_nil_right (a : List UInt8) : ordL a [] = if a = [] then 0 else 1 := by cases a <;> simp [ordL, Op.bytesLess]

set_option maxHeartbeats 1000000 in
theorem texts_any (a b : ByteArray) (ha : a.size ≤ 1000000) (_ : b.size ≤ 1000000) (w : World) :
    Calls Tryd.prog 31 #[.string a, .string b] w fun e w' => e = .returned (.int .i64 (ordL a.toList b.toList)) ∧ Below w.heap.size w w' := by
  rw [ByteArray.toList_eq, ByteArray.toList_eq]
  go_enter Tryd.func31, Tryd.ntmps31
  go_wp2
  go_loopw [5] (fun i wr => ∃ k : Nat, k ≤ a.size ∧ k ≤ b.size ∧ i = .int .i64 k ∧ Below w.heap.size w wr ∧ ordL a.data.toList b.data.toList = ordL (a.data.toList.drop k) (b.data.toList.drop k)) (fun i _ => a.size - (intOf i).toNat)
  case atStart => exact ⟨0, Nat.zero_le _, Nat.zero_le _, rfl, Below.refl _ _, rfl⟩
  case round =>
    obtain ⟨k, hka, hkb, rfl, hbel, ho⟩ := hrel
    have HO : Hid (ordL a.data.toList b.data.toList = ordL (a.data.toList.drop k) (b.data.toList.drop k)) := ho
    clear ho
    by_cases hla : k < a.size
    · by_cases hlb : k < b.size
      · have i0 : (0 : Int) ≤ (k : Int) := by omega
        have i1 : (k : Int) < (a.size : Int) := by omega
        have i2 : (k : Int) < (b.size : Int) := by omega
        have HC : Hid (ordL (a.data.toList.drop k) (b.data.toList.drop k) = if a[k] = b[k] then ordL (a.data.toList.drop (k + 1)) (b.data.toList.drop (k + 1)) else if a[k] < b[k] then -1 else 1) := by
          show ordL _ _ = _
          rw [drop_succ a k hla, drop_succ b k hlb, ordL_cons]
        rcases (show a[k].toNat < b[k].toNat ∨ b[k].toNat < a[k].toNat ∨ a[k].toNat = b[k].toNat by omega) with h | h | h
        · go_wp2_with fail
          go_region
          go_wp2_with fail
          go_ret
          refine ⟨ret_int ?_, hbel.drew⟩
          have hne : ¬ a[k] = b[k] := fun e => by rw [e] at h; omega
          rw [HO.out, HC.out, if_neg hne, if_pos (UInt8.lt_iff_toNat_lt.2 h)]
        · go_wp2_with fail
          go_region
          go_wp2_with fail
          go_region
          go_wp2_with fail
          go_ret
          refine ⟨ret_int ?_, hbel.drew.drew⟩
          have hne : ¬ a[k] = b[k] := fun e => by rw [e] at h; omega
          have hnl : ¬ a[k] < b[k] := fun e => by have := UInt8.lt_iff_toNat_lt.1 e; omega
          rw [HO.out, HC.out, if_neg hne, if_neg hnl]
        · have he : Hid (a[k] = b[k]) := UInt8.toNat_inj.1 h
          have n1 : ¬ a[k].toNat < b[k].toNat := by omega
          have n2 : ¬ b[k].toNat < a[k].toNat := by omega
          clear h
          go_wp2_with fail
          go_region
          go_wp2_with fail
          go_region
          go_wp2_with fail
          go_roundw
          case rel => exact ⟨k + 1, by omega, by omega, by go_num, hbel.drew.drew, by rw [HO.out, HC.out, if_pos he.out]⟩
          case measure => simp [intOf]; omega
      · have hk : k = b.size := by omega
        subst hk
        go_wp2_with (go_at_call 30; refine (ints_any _ _ _).mono ?_; rintro e w1 ⟨rfl, hw1⟩; subst hw1)
        go_ret
        refine ⟨ret_int ?_, hbel⟩
        have h1 : b.data.toList.drop b.size = [] := List.drop_eq_nil_of_le (by simp)
        have h2 : ¬ a.data.toList.drop b.size = [] := by rw [List.drop_eq_nil_iff]; simpa using hla
        rw [HO.out, h1, ordL_nil_right, if_neg h2]
        have h3 : ¬ (a.size : Int) < b.size := by omega
        have h4 : (b.size : Int) < a.size := by omega
        simp [ordI, h4, h3]
    · have hk : k = a.size := by omega
      subst hk
      go_wp2_with (go_at_call 30; refine (ints_any _ _ _).mono ?_; rintro e w1 ⟨rfl, hw1⟩; subst hw1)
      go_ret
      refine ⟨ret_int ?_, hbel⟩
      have h1 : a.data.toList.drop a.size = [] := List.drop_eq_nil_of_le (by simp)
      rw [HO.out, h1, ordL_nil_left]
      by_cases h2 : a.size = b.size
      · have h3 : b.data.toList.drop a.size = [] := by rw [h2]; exact List.drop_eq_nil_of_le (by simp)
        rw [if_pos h3]
        simp [ordI, h2]
      · have h3 : ¬ b.data.toList.drop a.size = [] := by rw [List.drop_eq_nil_iff]; simp; omega
        have h4 : (a.size : Int) < b.size := by omega
        rw [if_neg h3]
        simp [ordI, h4]

theorem nei {x y : Int} (h : x ≠ y) : (x != y) = true := by simpa using h
theorem eqi {x y : Int} (h : x = y) : (x != y) = false := by simpa using h

set_option maxHeartbeats 1000000 in
theorem refOrder_any (t n : Int) (s : ByteArray) (t' n' : Int) (s' : ByteArray) (hs : s.size ≤ 1000000) (hs' : s'.size ≤ 1000000) (w : World) :
    Calls Tryd.prog 20 #[V t n s, V t' n' s'] w fun e w' => e = .returned (.int .i64 (ordV t n s t' n' s')) ∧ Below w.heap.size w w' := by
  rw [ordV_or]
  by_cases ht : t = t'
  · have ht' := eqi ht
    by_cases hn : n = n'
    · have hn' := eqi hn
      have he : Hid (or3i (ordI t t') (ordI n n') (ordL s.toList s'.toList) = ordL s.toList s'.toList) := by show or3i _ _ _ = _; subst ht hn; simp [or3i, ordI]
      clear ht hn
      go_enter Tryd.func20, Tryd.ntmps20
      go_wp2_with (go_at_call 31; refine (texts_any _ _ hs hs' _).mono ?_; rintro e w1 ⟨rfl, hb1⟩)
      go_ret
      exact ⟨ret_int he.out.symm, bnew (bnew hb1)⟩
    · have hn' := nei hn
      have he : Hid (or3i (ordI t t') (ordI n n') (ordL s.toList s'.toList) = ordI n n') := by
        show or3i _ _ _ = _
        have : ¬ ordI n n' = 0 := fun h => hn ((good_ordI.3 n n').1 h)
        subst ht; simp [or3i, ordI] at this ⊢; simp [this]
      clear ht hn
      go_enter Tryd.func20, Tryd.ntmps20
      go_wp2_with (go_at_call 30; refine (ints_any _ _ _).mono ?_; rintro e w1 ⟨rfl, hw1⟩; subst hw1)
      go_ret
      exact ⟨ret_int he.out.symm, bnew (bnew (Below.refl _ _))⟩
  · have ht' := nei ht
    have he : Hid (or3i (ordI t t') (ordI n n') (ordL s.toList s'.toList) = ordI t t') := by
      show or3i _ _ _ = _
      have : ¬ ordI t t' = 0 := fun h => ht ((good_ordI.3 t t').1 h)
      simp [or3i, this]
    clear ht
    go_enter Tryd.func20, Tryd.ntmps20
    go_wp2_with (go_at_call 30; refine (ints_any _ _ _).mono ?_; rintro e w1 ⟨rfl, hw1⟩; subst hw1)
    go_ret
    exact ⟨ret_int he.out.symm, bnew (bnew (Below.refl _ _))⟩

end Go.Proofs.YtalfeggddfpgeaaDoor
