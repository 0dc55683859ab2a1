/- The law ValueMul, walked: for all two numbers of 64 bits it answers true; nothing that was there has turned. -/
import Derived.Test.YtpmkmemdammiaaaAlive
import Derived.Test.YtpmkmemdammiaaaDecl
namespace Go.Proofs.Ytpmkmemdammiaaa
open Go.RowKit Go.Sort

theorem keepS {w W W' : World} {b : Nat} {t n : Int} {s : ByteArray} (h : (W.cell? ⟨b, 0, none⟩ = some (.int .i64 t) ∧ W.cell? ⟨b, 1, none⟩ = some (.int .i64 n) ∧ W.cell? ⟨b, 2, none⟩ = some (.string s)) ∧ Below w.heap.size w W) (k : Below W.heap.size W W') :
    (W'.cell? ⟨b, 0, none⟩ = some (.int .i64 t) ∧ W'.cell? ⟨b, 1, none⟩ = some (.int .i64 n) ∧ W'.cell? ⟨b, 2, none⟩ = some (.string s)) ∧ Below w.heap.size w W' :=
  ⟨At.keep h.1 k, btrans h.2 k⟩
theorem keepA {w W : World} {b : Nat} {t n : Int} {s : ByteArray} {o : Obj} (h : (W.cell? ⟨b, 0, none⟩ = some (.int .i64 t) ∧ W.cell? ⟨b, 1, none⟩ = some (.int .i64 n) ∧ W.cell? ⟨b, 2, none⟩ = some (.string s)) ∧ Below w.heap.size w W) :
    ((W.alloc o).cell? ⟨b, 0, none⟩ = some (.int .i64 t) ∧ (W.alloc o).cell? ⟨b, 1, none⟩ = some (.int .i64 n) ∧ (W.alloc o).cell? ⟨b, 2, none⟩ = some (.string s)) ∧ Below w.heap.size w (W.alloc o) :=
  keepS h ((Below.refl _ _).alloc (Nat.le_refl _) o)

theorem blt {W W' : World} (k : Below W.heap.size W W') : ∀ b, b < W.heap.size → b < W'.heap.size := fun _ h => Nat.lt_of_lt_of_le h k.size

theorem veq_self (t n : Int) (s : ByteArray) : veq t n s t n s = true := by simp [veq]

/-- The product that there is. -/
theorem mul_r (x y : Int) (hx : inR x) (h : inR (x * y)) (w : World) : Calls Try.prog 29 #[V 2 x E0, V 2 y E0] w fun e w' => e = .returned (.tuple #[V 2 (x * y) E0, .int .i64 0]) ∧ Below w.heap.size w w' := by
  by_cases hy : y = 0
  · subst hy; rw [Int.mul_zero]; exact mul_zero x w
  · exact mul_ok x y hx hy h w

set_option maxHeartbeats 1000000 in
theorem mulNo (x y : Int) (hx : inR x) (hy : inR y) (h : ¬ inR (x * y)) (w : World) : Calls Try.prog 6 #[.int .i64 x, .int .i64 y] w fun e w' => e = .returned (.bool true) ∧ Below w.heap.size w w' := by
  have hx0 : x ≠ 0 := by rintro rfl; rw [Int.zero_mul] at h; exact h (by unfold inR; omega)
  have hy0 : y ≠ 0 := by rintro rfl; rw [Int.mul_zero] at h; exact h (by unfold inR; omega)
  have m1 := mul_no x y hy hy0 h
  have m2 := mul_no y x hx hx0 (by rw [Int.mul_comm]; exact h)
  have tx : (x != 0) = true := by simp [hx0]
  have ty : (y != 0) = true := by simp [hy0]
  have v1 : veq 0 0 E0 0 0 E0 = true := by simp [veq]
  have hv := run_vne
  clear h hx hy hx0 hy0
  have M1 : Hid _ := m1
  have M2 : Hid _ := m2
  clear m1 m2
  go_enter Try.func6, Try.ntmps6
  have b : Below w.heap.size w w := Below.refl _ _
  go_wp2_with fail
  refine (int_any _ _).mono ?_
  rintro e w1 ⟨rfl, k⟩
  replace b := btrans b k
  clear k
  go_wp2_with fail
  refine (int_any _ _).mono ?_
  rintro e w2 ⟨rfl, k⟩
  replace b := btrans b k
  clear k
  go_wp2_with fail
  refine (M1.out _).mono ?_
  rintro e w3 ⟨rfl, k⟩
  replace b := btrans b k
  clear k
  go_wp2_with fail
  have k : Below w3.heap.size w3 (w3.alloc (.cells #[.int .i64 0, .int .i64 0, .string E0] 23)) := (Below.refl _ _).alloc (Nat.le_refl _) _
  replace b := btrans b k
  clear k
  have pa := At.alloc w3 0 0 E0
  refine (int_any _ _).mono ?_
  rintro e w4 ⟨rfl, k⟩
  replace b := btrans b k
  replace pa := pa.keep k
  clear k
  go_wp2_with fail
  refine (int_any _ _).mono ?_
  rintro e w5 ⟨rfl, k⟩
  replace b := btrans b k
  replace pa := pa.keep k
  clear k
  go_wp2_with fail
  refine (M2.out _).mono ?_
  rintro e w6 ⟨rfl, k⟩
  replace b := btrans b k
  replace pa := pa.keep k
  clear k
  have qa : _ ∧ _ ∧ _ := pa
  have hz : w3.heap.size < w6.heap.size := block_lt_of_cell pa.1
  go_wp2_with fail
  have k : Below w6.heap.size w6 (w6.alloc (.cells #[.int .i64 0, .int .i64 0, .string E0] 23)) := (Below.refl _ _).alloc (Nat.le_refl _) _
  replace b := btrans b k
  clear k
  refine (alive_any _).mono ?_
  rintro e w7 ⟨rfl, k⟩
  replace b := btrans b k
  clear k
  go_wp2_with fail
  go_ret
  exact ⟨rfl, b⟩

set_option maxRecDepth 100000 in
set_option maxHeartbeats 1000000 in
theorem mulYes (x y : Int) (hx : inR x) (hy : inR y) (h : inR (x * y)) (w : World) : Calls Try.prog 6 #[.int .i64 x, .int .i64 y] w fun e w' => e = .returned (.bool true) ∧ Below w.heap.size w w' := by
  have m1 := mul_r x y hx h
  have m2 := mul_r y x hy (by rw [Int.mul_comm]; exact h)
  rw [Int.mul_comm y x] at m2
  have m3 := mul_r x 1 hx (by rw [Int.mul_one]; exact hx)
  rw [Int.mul_one] at m3
  have hv := run_vne
  have M1 : Hid _ := m1
  have M2 : Hid _ := m2
  have M3 : Hid _ := m3
  clear m1 m2 m3
  by_cases hy0 : y = 0
  · have tz : (x * y == 0) = true := by simp [hy0]
    have ty : (y == 0) = true := by simp [hy0]
    clear hy0 h hx hy
    generalize x * y = m at *
    have v1 : veq 2 m E0 2 m E0 = true := by simp [veq]
    go_enter Try.func6, Try.ntmps6
    have b : Below w.heap.size w w := Below.refl _ _
    go_wp2_with fail
    refine (int_any _ _).mono ?_
    rintro e w1 ⟨rfl, k⟩
    replace b := btrans b k
    clear k
    go_wp2_with fail
    refine (int_any _ _).mono ?_
    rintro e w2 ⟨rfl, k⟩
    replace b := btrans b k
    clear k
    go_wp2_with fail
    refine (M1.out _).mono ?_
    rintro e w3 ⟨rfl, k⟩
    replace b := btrans b k
    clear k
    go_wp2_with fail
    have k : Below w3.heap.size w3 (w3.alloc (.cells #[.int .i64 2, .int .i64 m, .string E0] 23)) := (Below.refl _ _).alloc (Nat.le_refl _) _
    replace b := btrans b k
    clear k
    have pa := At.alloc w3 2 m E0
    refine (int_any _ _).mono ?_
    rintro e w4 ⟨rfl, k⟩
    replace b := btrans b k
    replace pa := pa.keep k
    clear k
    go_wp2_with fail
    refine (int_any _ _).mono ?_
    rintro e w5 ⟨rfl, k⟩
    replace b := btrans b k
    replace pa := pa.keep k
    clear k
    go_wp2_with fail
    refine (M2.out _).mono ?_
    rintro e w6 ⟨rfl, k⟩
    replace b := btrans b k
    replace pa := pa.keep k
    clear k
    have qa : _ ∧ _ ∧ _ := pa
    have hz : w3.heap.size < w6.heap.size := block_lt_of_cell pa.1
    go_wp2_with fail
    have k : Below w6.heap.size w6 (w6.alloc (.cells #[.int .i64 2, .int .i64 m, .string E0] 23)) := (Below.refl _ _).alloc (Nat.le_refl _) _
    replace b := btrans b k
    clear k
    refine (alive_any _).mono ?_
    rintro e w7 ⟨rfl, k⟩
    replace b := btrans b k
    clear k
    go_wp2_with fail
    go_ret
    exact ⟨rfl, b⟩
  · have hd : (x * y).tdiv y = x := Int.mul_tdiv_cancel x hy0
    have d1 := div_ok (x * y) y h hy0 (by rintro ⟨e, rfl⟩; unfold inR at hx; omega)
    rw [hd] at d1
    have D1 : Hid _ := d1
    have ty : (y == 0) = false := by simp [hy0]
    clear hy0 h hx hy hd d1
    generalize x * y = m at *
    have v1 : veq 2 m E0 2 m E0 = true := by simp [veq]
    go_enter Try.func6, Try.ntmps6
    have b : Below w.heap.size w w := Below.refl _ _
    go_wp2_with fail
    refine (int_any _ _).mono ?_
    rintro e w1 ⟨rfl, k⟩
    replace b := btrans b k
    clear k
    go_wp2_with fail
    refine (int_any _ _).mono ?_
    rintro e w2 ⟨rfl, k⟩
    replace b := btrans b k
    clear k
    go_wp2_with fail
    refine (M1.out _).mono ?_
    rintro e w3 ⟨rfl, k⟩
    replace b := btrans b k
    clear k
    go_wp2_with fail
    have k : Below w3.heap.size w3 (w3.alloc (.cells #[.int .i64 2, .int .i64 m, .string E0] 23)) := (Below.refl _ _).alloc (Nat.le_refl _) _
    replace b := btrans b k
    clear k
    have pa := At.alloc w3 2 m E0
    refine (int_any _ _).mono ?_
    rintro e w4 ⟨rfl, k⟩
    replace b := btrans b k
    replace pa := pa.keep k
    clear k
    go_wp2_with fail
    refine (int_any _ _).mono ?_
    rintro e w5 ⟨rfl, k⟩
    replace b := btrans b k
    replace pa := pa.keep k
    clear k
    go_wp2_with fail
    refine (M2.out _).mono ?_
    rintro e w6 ⟨rfl, k⟩
    replace b := btrans b k
    replace pa := pa.keep k
    clear k
    have qa : _ ∧ _ ∧ _ := pa
    have hz : w3.heap.size < w6.heap.size := block_lt_of_cell pa.1
    go_wp2_with fail
    have k : Below w6.heap.size w6 (w6.alloc (.cells #[.int .i64 2, .int .i64 m, .string E0] 23)) := (Below.refl _ _).alloc (Nat.le_refl _) _
    replace b := btrans b k
    replace pa := pa.keep k
    clear k qa
    have ca := pa.cells
    refine wp_region_grow [0, 1, 2, 3, 4, 5, 6] [7, 8, 9] (by kernel_rfl) (by kernel_rfl) ?_
    repeat (refine wpV_step rfl (fun K hK => ?_); simp only [Soft, softUpon]; go_simp; first | (refine hK _ ?_; clear hK K) | (apply Exists.intro; refine ⟨fun _ => ?_, hK _ ?_⟩; (first | exact int_any _ _ | exact D1.out _); clear hK K))
    refine wpV_nil ?_
    refine wpT_decl 2 x E0 rfl rfl rfl rfl rfl rfl rfl rfl (fun _ => rfl) (fun _ => rfl) (fun q => ?_)
    refine wpT_assign rfl rfl rfl ?_
    refine wpT_nil ?_
    rintro W ⟨k, pd⟩
    replace b := btrans b k
    replace pa := pa.keep k
    clear k ca
    clear pa
    go_wp2_with fail
    refine (int_any _ _).mono ?_
    rintro e w7 ⟨rfl, k⟩
    replace b := btrans b k
    replace pd := pd.keep k
    clear k
    go_wp2_with fail
    refine (int_any _ _).mono ?_
    rintro e w8 ⟨rfl, k⟩
    replace b := btrans b k
    replace pd := pd.keep k
    clear k
    go_wp2_with fail
    refine (M3.out _).mono ?_
    rintro e w9 ⟨rfl, k⟩
    replace b := btrans b k
    replace pd := pd.keep k
    clear k
    have qd : _ ∧ _ ∧ _ := pd
    have hz : q < w9.heap.size := block_lt_of_cell pd.1
    go_wp2_with fail
    have k : Below w9.heap.size w9 (w9.alloc (.cells #[.int .i64 2, .int .i64 x, .string E0] 23)) := (Below.refl _ _).alloc (Nat.le_refl _) _
    replace b := btrans b k
    clear k
    refine (alive_any _).mono ?_
    rintro e w10 ⟨rfl, k⟩
    replace b := btrans b k
    clear k
    go_wp2_with fail
    go_ret
    exact ⟨rfl, b⟩

/-- Whatever two numbers: the law answers true. -/
theorem mul_law (x y : Int) (hx : inR x) (hy : inR y) (w : World) : Calls Try.prog 6 #[.int .i64 x, .int .i64 y] w fun e w' => e = .returned (.bool true) ∧ Below w.heap.size w w' := by
  by_cases h : inR (x * y)
  · exact mulYes x y hx hy h w
  · exact mulNo x y hx hy h w

end Go.Proofs.Ytpmkmemdammiaaa
