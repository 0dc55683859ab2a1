/- Contracts of Less: what it hands back of any two values, and why not; nothing that was there has turned. -/
import Derived.Test.YtpmkmemdammiaabOrdCmp
namespace Go.Proofs.Ytpmkmemdammiaab
open Go.RowKit Go.Sort

set_option maxHeartbeats 1000000 in
theorem cmp_n (t n : Int) (s : ByteArray) (t' n' : Int) (s' : ByteArray) (i j : Nat) (an : anyN t n s t' n' s' = true) (w : World) (hi : At w i t n s) (hj : At w j t' n' s') :
    Calls Try.prog 11 #[V t n s, V t' n' s', (.func (.func 12) #[] #[ptr i, ptr j])] w fun e w' => e = .returned (.tuple #[V 0 0 E0, .int .i64 0]) ∧ Below w.heap.size w w' := by
  have HI : Hid _ := hi
  have HJ : Hid _ := hj
  clear hi hj
  go_enter Try.func11, Try.ntmps11
  go_wp2_with fail
  refine (anyNull_any _ _ _ _ _ _ _).mono ?_
  rintro e w1 ⟨rfl, b1⟩
  obtain ⟨hc1, hf1⟩ := bcell b1
  rw [an]
  go_wp2_with fail
  refine (null_any _).mono ?_
  rintro e w2 ⟨rfl, k⟩
  have b2 := btrans b1 k
  clear b1 hc1 hf1 k
  obtain ⟨hc2, hf2⟩ := bcell b2
  go_wp2_with fail
  exact bodyPost_ret (v := .tuple #[V 0 0 E0, .int .i64 0]) (by simp [results, Try.results11, go_sem, hc2]) rfl ⟨rfl, bset3 (bnew (bnew (bnew b2))) (by omega) _ _ _⟩

set_option maxHeartbeats 1000000 in
theorem cmp_t (t n : Int) (s : ByteArray) (t' n' : Int) (s' : ByteArray) (i j : Nat) (an : anyN t n s t' n' s' = false) (ht : (t != t') = true) (w : World) (hi : At w i t n s) (hj : At w j t' n' s') :
    Calls Try.prog 11 #[V t n s, V t' n' s', (.func (.func 12) #[] #[ptr i, ptr j])] w fun e w' => e = .returned (.tuple #[V 0 0 E0, .int .i64 3]) ∧ Below w.heap.size w w' := by
  have HI : Hid _ := hi
  have HJ : Hid _ := hj
  clear hi hj
  go_enter Try.func11, Try.ntmps11
  go_wp2_with fail
  refine (anyNull_any _ _ _ _ _ _ _).mono ?_
  rintro e w1 ⟨rfl, b1⟩
  obtain ⟨hc1, hf1⟩ := bcell b1
  rw [an]
  go_wp2_with fail
  exact bodyPost_ret (v := .tuple #[V 0 0 E0, .int .i64 3]) (by simp [results, Try.results11, go_sem, hc1]) rfl ⟨rfl, bset3 (bnew (bnew (bnew b1))) (by omega) _ _ _⟩

set_option maxHeartbeats 1000000 in
theorem cmp_o (t n : Int) (s : ByteArray) (t' n' : Int) (s' : ByteArray) (i j : Nat) (an : anyN t n s t' n' s' = false) (ht : (t != t') = false) (w : World) (hi : At w i t n s) (hj : At w j t' n' s') :
    Calls Try.prog 11 #[V t n s, V t' n' s', (.func (.func 12) #[] #[ptr i, ptr j])] w fun e w' => e = .returned (.tuple #[V 1 (oneOf (decide (ordV t n s t' n' s' < 0))) E0, .int .i64 0]) ∧ Below w.heap.size w w' := by
  have HI : Hid _ := hi
  have HJ : Hid _ := hj
  clear hi hj
  go_enter Try.func11, Try.ntmps11
  go_wp2_with fail
  refine (anyNull_any _ _ _ _ _ _ _).mono ?_
  rintro e w1 ⟨rfl, b1⟩
  obtain ⟨hc1, hf1⟩ := bcell b1
  rw [an]
  go_wp2_with fail
  have b0 := bnew (bnew (bnew b1))
  refine (less1_any t n s t' n' s' i j _ (At.keep HI.out b0) (At.keep HJ.out b0)).mono ?_
  rintro e w2 ⟨rfl, k⟩
  have b2 := btrans b1 k
  clear b0 b1 hc1 hf1 k
  go_wp2_with fail
  refine (bool_any _ _).mono ?_
  rintro e w3 ⟨rfl, k⟩
  have b3 := btrans b2 k
  clear b2 k
  obtain ⟨hc3, hf3⟩ := bcell b3
  go_wp2_with fail
  exact bodyPost_ret (v := .tuple #[V 1 (oneOf (decide (ordV t n s t' n' s' < 0))) E0, .int .i64 0]) (by simp [results, Try.results11, go_sem, hc3]) rfl ⟨rfl, bset3 (bnew (bnew (bnew b3))) (by omega) _ _ _⟩

set_option maxHeartbeats 1000000 in
theorem less_n (t n : Int) (s : ByteArray) (t' n' : Int) (s' : ByteArray) (an : anyN t n s t' n' s' = true) (w : World) :
    Calls Try.prog 5 #[V t n s, V t' n' s'] w fun e w' => e = .returned (.tuple #[V 0 0 E0, .int .i64 0]) ∧ Below w.heap.size w w' := by
  have k0 := fun W => cmp_n t n s t' n' s' w.heap.size (w.heap.size + 1) an W
  have K0 : Hid _ := k0
  clear k0
  have pa := ((At.alloc w t n s).keep ((Below.refl _ _).alloc (Nat.le_refl _) (.cells #[.int .i64 t', .int .i64 n', .string s'] 23))).keep ((Below.refl _ _).alloc (Nat.le_refl _) (.cells #[.int .i64 0, .int .i64 0, .string E0] 23))
  have pb := (show At ((w.alloc (.cells #[.int .i64 t, .int .i64 n, .string s] 23)).alloc (.cells #[.int .i64 t', .int .i64 n', .string s'] 23)) (w.heap.size + 1) t' n' s' by simpa using At.alloc (w.alloc (.cells #[.int .i64 t, .int .i64 n, .string s] 23)) t' n' s').keep ((Below.refl _ _).alloc (Nat.le_refl _) (.cells #[.int .i64 0, .int .i64 0, .string E0] 23))
  go_enter Try.func5, Try.ntmps5
  go_wp2_with fail
  refine (K0.out _ pa pb).mono ?_
  rintro e w1 ⟨rfl, b1⟩
  obtain ⟨hc1, hf1⟩ := bcell b1
  clear K0 pa pb
  go_wp2_with fail
  exact bodyPost_ret (v := .tuple #[V 0 0 E0, .int .i64 0]) (by simp [results, Try.results5, go_sem, hc1]) rfl ⟨rfl, bset3 (bnew (bnew (bnew b1))) (by omega) _ _ _⟩

set_option maxHeartbeats 1000000 in
theorem less_t (t n : Int) (s : ByteArray) (t' n' : Int) (s' : ByteArray) (an : anyN t n s t' n' s' = false) (ht : (t != t') = true) (w : World) :
    Calls Try.prog 5 #[V t n s, V t' n' s'] w fun e w' => e = .returned (.tuple #[V 0 0 E0, .int .i64 3]) ∧ Below w.heap.size w w' := by
  have k0 := fun W => cmp_t t n s t' n' s' w.heap.size (w.heap.size + 1) an ht W
  have K0 : Hid _ := k0
  clear k0
  have pa := ((At.alloc w t n s).keep ((Below.refl _ _).alloc (Nat.le_refl _) (.cells #[.int .i64 t', .int .i64 n', .string s'] 23))).keep ((Below.refl _ _).alloc (Nat.le_refl _) (.cells #[.int .i64 0, .int .i64 0, .string E0] 23))
  have pb := (show At ((w.alloc (.cells #[.int .i64 t, .int .i64 n, .string s] 23)).alloc (.cells #[.int .i64 t', .int .i64 n', .string s'] 23)) (w.heap.size + 1) t' n' s' by simpa using At.alloc (w.alloc (.cells #[.int .i64 t, .int .i64 n, .string s] 23)) t' n' s').keep ((Below.refl _ _).alloc (Nat.le_refl _) (.cells #[.int .i64 0, .int .i64 0, .string E0] 23))
  go_enter Try.func5, Try.ntmps5
  go_wp2_with fail
  refine (K0.out _ pa pb).mono ?_
  rintro e w1 ⟨rfl, b1⟩
  obtain ⟨hc1, hf1⟩ := bcell b1
  clear K0 pa pb
  go_wp2_with fail
  exact bodyPost_ret (v := .tuple #[V 0 0 E0, .int .i64 3]) (by simp [results, Try.results5, go_sem, hc1]) rfl ⟨rfl, bset3 (bnew (bnew (bnew b1))) (by omega) _ _ _⟩

set_option maxHeartbeats 1000000 in
theorem less_o (t n : Int) (s : ByteArray) (t' n' : Int) (s' : ByteArray) (an : anyN t n s t' n' s' = false) (ht : (t != t') = false) (w : World) :
    Calls Try.prog 5 #[V t n s, V t' n' s'] w fun e w' => e = .returned (.tuple #[V 1 (oneOf (decide (ordV t n s t' n' s' < 0))) E0, .int .i64 0]) ∧ Below w.heap.size w w' := by
  have k0 := fun W => cmp_o t n s t' n' s' w.heap.size (w.heap.size + 1) an ht W
  have K0 : Hid _ := k0
  clear k0
  have pa := ((At.alloc w t n s).keep ((Below.refl _ _).alloc (Nat.le_refl _) (.cells #[.int .i64 t', .int .i64 n', .string s'] 23))).keep ((Below.refl _ _).alloc (Nat.le_refl _) (.cells #[.int .i64 0, .int .i64 0, .string E0] 23))
  have pb := (show At ((w.alloc (.cells #[.int .i64 t, .int .i64 n, .string s] 23)).alloc (.cells #[.int .i64 t', .int .i64 n', .string s'] 23)) (w.heap.size + 1) t' n' s' by simpa using At.alloc (w.alloc (.cells #[.int .i64 t, .int .i64 n, .string s] 23)) t' n' s').keep ((Below.refl _ _).alloc (Nat.le_refl _) (.cells #[.int .i64 0, .int .i64 0, .string E0] 23))
  go_enter Try.func5, Try.ntmps5
  go_wp2_with fail
  refine (K0.out _ pa pb).mono ?_
  rintro e w1 ⟨rfl, b1⟩
  obtain ⟨hc1, hf1⟩ := bcell b1
  clear K0 pa pb
  go_wp2_with fail
  exact bodyPost_ret (v := .tuple #[V 1 (oneOf (decide (ordV t n s t' n' s' < 0))) E0, .int .i64 0]) (by simp [results, Try.results5, go_sem, hc1]) rfl ⟨rfl, bset3 (bnew (bnew (bnew b1))) (by omega) _ _ _⟩

end Go.Proofs.Ytpmkmemdammiaab
