/- The law ValueBack, walked: for all two numbers of 64 bits it answers true; nothing that was there has turned. -/
import Derived.Test.YtpmkmemdammiaaaAlive
import Derived.Deep.DeepCutAuto
namespace Go.Proofs.Ytpmkmemdammiaaa
open Go.RowKit Go.Sort

theorem back_r {x y : Int} (hx : inR x) (hy : inR y) (h0 : y ≠ 0) : inR (x.tdiv y * y) := by
  have e := div_mod x y
  have g := tmod_sign x y
  have s := tmod_small x y h0
  generalize x.tdiv y * y = p at *
  generalize x.tmod y = r at *
  unfold inR at *
  omega
/-- The sign of what is left, case by case. -/
theorem sign3 (x y : Int) : (x.tmod y < 0 ∧ x < 0) ∨ (0 ≤ x.tmod y ∧ x.tmod y ≤ 0) ∨ (0 < x.tmod y ∧ 0 < x) := by
  have g := tmod_sign x y
  omega
theorem neg_in {y : Int} (hy : inR y) (h : y ≠ -9223372036854775808) : wrap64 (-y) = -y := wrap_in (by unfold inR at *; omega)
theorem neg_low {y : Int} (h : y = -9223372036854775808) : wrap64 (-y) = y := by subst h; unfold wrap64; omega

set_option maxRecDepth 100000 in
set_option maxHeartbeats 2000000 in
theorem backZero (x y : Int) (hx : inR x) (hy : inR y) (h : inR (x + y)) (h0 : y = 0) (w : World) : Calls Try.prog 5 #[.int .i64 x, .int .i64 y] w fun e w' => e = .returned (.bool true) ∧ Below w.heap.size w w' := by
  have a1 := add_ok x y h
  have s1 := sub_ok (x + y) y (by rw [Int.add_sub_cancel]; exact hx)
  rw [Int.add_sub_cancel] at s1
  have A1 : Hid _ := a1
  clear a1
  have S1 : Hid _ := s1
  clear s1
  have d1 : ∀ w, Calls Try.prog 27 #[V 2 x E0, V 2 y E0] w fun e w' => e = .returned (.tuple #[V 0 0 E0, .int .i64 5]) ∧ Below w.heap.size w w' := by subst h0; exact div_zero x
  have o1 : ∀ w, Calls Try.prog 28 #[V 2 x E0, V 2 y E0] w fun e w' => e = .returned (.tuple #[V 0 0 E0, .int .i64 5]) ∧ Below w.heap.size w w' := by subst h0; exact mod_zero x
  have t0 : (y == 0) = true := by simp [h0]
  have D1 : Hid _ := d1
  clear d1
  have O1 : Hid _ := o1
  clear o1
  have hv := run_vne
  have hw := run_veq
  have v1 : veq 2 x E0 2 x E0 = true := by simp [veq]
  clear h h0 hx hy
  go_enter Try.func5, Try.ntmps5
  have b : Below w.heap.size w w := Below.refl _ _
  go_wp2_with fail
  refine (int_any _ _).mono ?_
  rintro e w1 ⟨rfl, k⟩
  replace b := btrans b k
  clear k
  go_wp2_with fail
  refine (int_any _ _).mono ?_
  rintro e w2 ⟨rfl, k⟩
  replace b := btrans b k
  clear k
  go_wp2_with fail
  have k : Below w2.heap.size w2 (w2.alloc (.cells #[.int .i64 2, .int .i64 x, .string E0] 23)) := (Below.refl _ _).alloc (Nat.le_refl _) _
  replace b := btrans b k
  clear k
  have pa := At.alloc w2 2 x E0
  have k : Below (w2.alloc (.cells #[.int .i64 2, .int .i64 x, .string E0] 23)).heap.size (w2.alloc (.cells #[.int .i64 2, .int .i64 x, .string E0] 23)) ((w2.alloc (.cells #[.int .i64 2, .int .i64 x, .string E0] 23)).alloc (.cells #[.int .i64 2, .int .i64 y, .string E0] 23)) := (Below.refl _ _).alloc (Nat.le_refl _) _
  replace b := btrans b k
  replace pa := pa.keep k
  clear k
  have pb : At ((w2.alloc (.cells #[.int .i64 2, .int .i64 x, .string E0] 23)).alloc (.cells #[.int .i64 2, .int .i64 y, .string E0] 23)) (w2.heap.size + 1) 2 y E0 := by simpa using At.alloc (w2.alloc (.cells #[.int .i64 2, .int .i64 x, .string E0] 23)) 2 y E0
  refine (A1.out _).mono ?_
  rintro e w3 ⟨rfl, k⟩
  replace b := btrans b k
  replace pa := pa.keep k
  replace pb := pb.keep k
  clear k
  have qpa : _ ∧ _ ∧ _ := pa
  have zpa : w2.heap.size < w3.heap.size := block_lt_of_cell pa.1
  have qpb : _ ∧ _ ∧ _ := pb
  have zpb : w2.heap.size + 1 < w3.heap.size := block_lt_of_cell pb.1
  go_wp2_with fail
  clear qpa zpa qpb zpb
  have k : Below w3.heap.size w3 (w3.alloc (.cells #[.int .i64 2, .int .i64 (x + y), .string E0] 23)) := (Below.refl _ _).alloc (Nat.le_refl _) _
  replace b := btrans b k
  replace pa := pa.keep k
  replace pb := pb.keep k
  clear k
  have ps := At.alloc w3 2 (x + y) E0
  refine (S1.out _).mono ?_
  rintro e w4 ⟨rfl, k⟩
  replace b := btrans b k
  replace pa := pa.keep k
  replace pb := pb.keep k
  replace ps := ps.keep k
  clear k
  have qpa : _ ∧ _ ∧ _ := pa
  have zpa : w2.heap.size < w4.heap.size := block_lt_of_cell pa.1
  have qpb : _ ∧ _ ∧ _ := pb
  have zpb : w2.heap.size + 1 < w4.heap.size := block_lt_of_cell pb.1
  go_wp2_with fail
  clear qpa zpa qpb zpb
  have k : Below w4.heap.size w4 (w4.alloc (.cells #[.int .i64 2, .int .i64 x, .string E0] 23)) := (Below.refl _ _).alloc (Nat.le_refl _) _
  replace b := btrans b k
  replace pa := pa.keep k
  replace pb := pb.keep k
  replace ps := ps.keep k
  clear k
  have pd := At.alloc w4 2 x E0
  clear ps pd
  refine (D1.out _).mono ?_
  rintro e w5 ⟨rfl, k⟩
  replace b := btrans b k
  replace pa := pa.keep k
  replace pb := pb.keep k
  clear k
  have qpa : _ ∧ _ ∧ _ := pa
  have zpa : w2.heap.size < w5.heap.size := block_lt_of_cell pa.1
  have qpb : _ ∧ _ ∧ _ := pb
  have zpb : w2.heap.size + 1 < w5.heap.size := block_lt_of_cell pb.1
  go_wp2_with fail
  clear qpa zpa qpb zpb
  have k : Below w5.heap.size w5 (w5.alloc (.cells #[.int .i64 0, .int .i64 0, .string E0] 23)) := (Below.refl _ _).alloc (Nat.le_refl _) _
  replace b := btrans b k
  replace pa := pa.keep k
  replace pb := pb.keep k
  clear k
  have pq := At.alloc w5 0 0 E0
  refine (O1.out _).mono ?_
  rintro e w6 ⟨rfl, k⟩
  replace b := btrans b k
  replace pa := pa.keep k
  replace pb := pb.keep k
  replace pq := pq.keep k
  clear k
  go_wp2_with fail
  have k : Below w6.heap.size w6 (w6.alloc (.cells #[.int .i64 0, .int .i64 0, .string E0] 23)) := (Below.refl _ _).alloc (Nat.le_refl _) _
  replace b := btrans b k
  replace pa := pa.keep k
  replace pb := pb.keep k
  replace pq := pq.keep k
  clear k
  have pm := At.alloc w6 0 0 E0
  refine (alive_any _).mono ?_
  rintro e w7 ⟨rfl, k⟩
  replace b := btrans b k
  replace pa := pa.keep k
  replace pb := pb.keep k
  replace pq := pq.keep k
  replace pm := pm.keep k
  clear k
  go_wp2_with fail
  go_ret
  exact ⟨rfl, b⟩

set_option maxRecDepth 100000 in
set_option maxHeartbeats 2000000 in
theorem backLow (x y : Int) (hx : inR x) (hy : inR y) (h : ¬ inR (x + y)) (hm : x = -9223372036854775808) (hn : y = -1) (w : World) : Calls Try.prog 5 #[.int .i64 x, .int .i64 y] w fun e w' => e = .returned (.bool true) ∧ Below w.heap.size w w' := by
  have a1 := add_no x y hx hy h
  have A1 : Hid _ := a1
  clear a1
  have d1 := div_low x y hm hn
  have o1 := mod_ok x y (by omega)
  have e0 : x.tmod y = 0 := by subst hn; subst hm; decide
  rw [e0] at o1
  have t0 : (y == 0) = false := by simp [hn]
  have t1 : (y == -1) = true := by simp [hn]
  have D1 : Hid _ := d1
  clear d1
  have O1 : Hid _ := o1
  clear o1
  have hv := run_vne
  have hw := run_veq
  have v1 : veq 2 x E0 2 x E0 = true := by simp [veq]
  clear h hm hn e0 hx hy
  go_enter Try.func5, Try.ntmps5
  have b : Below w.heap.size w w := Below.refl _ _
  go_wp2_with fail
  refine (int_any _ _).mono ?_
  rintro e w1 ⟨rfl, k⟩
  replace b := btrans b k
  clear k
  go_wp2_with fail
  refine (int_any _ _).mono ?_
  rintro e w2 ⟨rfl, k⟩
  replace b := btrans b k
  clear k
  go_wp2_with fail
  have k : Below w2.heap.size w2 (w2.alloc (.cells #[.int .i64 2, .int .i64 x, .string E0] 23)) := (Below.refl _ _).alloc (Nat.le_refl _) _
  replace b := btrans b k
  clear k
  have pa := At.alloc w2 2 x E0
  have k : Below (w2.alloc (.cells #[.int .i64 2, .int .i64 x, .string E0] 23)).heap.size (w2.alloc (.cells #[.int .i64 2, .int .i64 x, .string E0] 23)) ((w2.alloc (.cells #[.int .i64 2, .int .i64 x, .string E0] 23)).alloc (.cells #[.int .i64 2, .int .i64 y, .string E0] 23)) := (Below.refl _ _).alloc (Nat.le_refl _) _
  replace b := btrans b k
  replace pa := pa.keep k
  clear k
  have pb : At ((w2.alloc (.cells #[.int .i64 2, .int .i64 x, .string E0] 23)).alloc (.cells #[.int .i64 2, .int .i64 y, .string E0] 23)) (w2.heap.size + 1) 2 y E0 := by simpa using At.alloc (w2.alloc (.cells #[.int .i64 2, .int .i64 x, .string E0] 23)) 2 y E0
  refine (A1.out _).mono ?_
  rintro e w3 ⟨rfl, k⟩
  replace b := btrans b k
  replace pa := pa.keep k
  replace pb := pb.keep k
  clear k
  have qpa : _ ∧ _ ∧ _ := pa
  have zpa : w2.heap.size < w3.heap.size := block_lt_of_cell pa.1
  have qpb : _ ∧ _ ∧ _ := pb
  have zpb : w2.heap.size + 1 < w3.heap.size := block_lt_of_cell pb.1
  go_wp2_with fail
  clear qpa zpa qpb zpb
  have k : Below w3.heap.size w3 (w3.alloc (.cells #[.int .i64 0, .int .i64 0, .string E0] 23)) := (Below.refl _ _).alloc (Nat.le_refl _) _
  replace b := btrans b k
  replace pa := pa.keep k
  replace pb := pb.keep k
  clear k
  have ps := At.alloc w3 0 0 E0
  clear ps
  refine (D1.out _).mono ?_
  rintro e w4 ⟨rfl, k⟩
  replace b := btrans b k
  replace pa := pa.keep k
  replace pb := pb.keep k
  clear k
  have qpa : _ ∧ _ ∧ _ := pa
  have zpa : w2.heap.size < w4.heap.size := block_lt_of_cell pa.1
  have qpb : _ ∧ _ ∧ _ := pb
  have zpb : w2.heap.size + 1 < w4.heap.size := block_lt_of_cell pb.1
  go_wp2_with fail
  clear qpa zpa qpb zpb
  have k : Below w4.heap.size w4 (w4.alloc (.cells #[.int .i64 0, .int .i64 0, .string E0] 23)) := (Below.refl _ _).alloc (Nat.le_refl _) _
  replace b := btrans b k
  replace pa := pa.keep k
  replace pb := pb.keep k
  clear k
  have pq := At.alloc w4 0 0 E0
  refine (O1.out _).mono ?_
  rintro e w5 ⟨rfl, k⟩
  replace b := btrans b k
  replace pa := pa.keep k
  replace pb := pb.keep k
  replace pq := pq.keep k
  clear k
  go_wp2_with fail
  have k : Below w5.heap.size w5 (w5.alloc (.cells #[.int .i64 2, .int .i64 0, .string E0] 23)) := (Below.refl _ _).alloc (Nat.le_refl _) _
  replace b := btrans b k
  replace pa := pa.keep k
  replace pb := pb.keep k
  replace pq := pq.keep k
  clear k
  have pm := At.alloc w5 2 0 E0
  refine (alive_any _).mono ?_
  rintro e w6 ⟨rfl, k⟩
  replace b := btrans b k
  replace pa := pa.keep k
  replace pb := pb.keep k
  replace pq := pq.keep k
  replace pm := pm.keep k
  clear k
  go_wp2_with fail
  go_ret
  exact ⟨rfl, b⟩

set_option maxRecDepth 100000 in
set_option maxHeartbeats 2000000 in
theorem backOkOther (x y : Int) (hx : inR x) (hy : inR y) (h : inR (x + y)) (h0 : y ≠ 0) (hl : ¬ (x = -9223372036854775808 ∧ y = -1)) (w : World) : Calls Try.prog 5 #[.int .i64 x, .int .i64 y] w fun e w' => e = .returned (.bool true) ∧ Below w.heap.size w w' := by
  have a1 := add_ok x y h
  have s1 := sub_ok (x + y) y (by rw [Int.add_sub_cancel]; exact hx)
  rw [Int.add_sub_cancel] at s1
  have A1 : Hid _ := a1
  clear a1
  have S1 : Hid _ := s1
  clear s1
  have d1 := div_ok x y hx h0 hl
  have o1 := mod_ok x y h0
  have m1 := mul_ok (x.tdiv y) y (tdiv_in hx h0 hl) h0 (back_r hx hy h0)
  have a2 := add_ok (x.tdiv y * y) (x.tmod y) (by rw [div_mod]; exact hx)
  rw [div_mod] at a2
  have t0 : (y == 0) = false := by simp [h0]
  have hs := sign3 x y
  have hn : (0 < y ∧ x.tmod y < y ∧ -y < x.tmod y ∧ wrap64 (-y) = -y ∧ (y == -9223372036854775808) = false) ∨ (y < 0 ∧ x.tmod y < -y ∧ y < x.tmod y ∧ wrap64 (-y) = -y ∧ (y == -9223372036854775808) = false) ∨ (wrap64 (-y) = y ∧ y < x.tmod y ∧ (y == -9223372036854775808) = true) := by
    have s := tmod_small x y h0
    by_cases e : y = -9223372036854775808
    · exact .inr (.inr ⟨neg_low e, by omega, by simp [e]⟩)
    · have e2 : (y == -9223372036854775808) = false := by simp [e]
      have e3 := neg_in hy e
      by_cases hp : 0 < y
      · exact .inl ⟨hp, by omega, by omega, e3, e2⟩
      · exact .inr (.inl ⟨by omega, by omega, by omega, e3, e2⟩)
  generalize x.tdiv y = q at *
  generalize x.tmod y = r at *
  have D1 : Hid _ := d1
  clear d1
  have O1 : Hid _ := o1
  clear o1
  have M1 : Hid _ := m1
  clear m1
  have A2 : Hid _ := a2
  clear a2
  have hv := run_vne
  have hw := run_veq
  have v1 : veq 2 x E0 2 x E0 = true := by simp [veq]
  clear h h0 hl hx hy
  go_enter Try.func5, Try.ntmps5
  have b : Below w.heap.size w w := Below.refl _ _
  go_wp2_with fail
  refine (int_any _ _).mono ?_
  rintro e w1 ⟨rfl, k⟩
  replace b := btrans b k
  clear k
  go_wp2_with fail
  refine (int_any _ _).mono ?_
  rintro e w2 ⟨rfl, k⟩
  replace b := btrans b k
  clear k
  go_wp2_with fail
  have k : Below w2.heap.size w2 (w2.alloc (.cells #[.int .i64 2, .int .i64 x, .string E0] 23)) := (Below.refl _ _).alloc (Nat.le_refl _) _
  replace b := btrans b k
  clear k
  have pa := At.alloc w2 2 x E0
  have k : Below (w2.alloc (.cells #[.int .i64 2, .int .i64 x, .string E0] 23)).heap.size (w2.alloc (.cells #[.int .i64 2, .int .i64 x, .string E0] 23)) ((w2.alloc (.cells #[.int .i64 2, .int .i64 x, .string E0] 23)).alloc (.cells #[.int .i64 2, .int .i64 y, .string E0] 23)) := (Below.refl _ _).alloc (Nat.le_refl _) _
  replace b := btrans b k
  replace pa := pa.keep k
  clear k
  have pb : At ((w2.alloc (.cells #[.int .i64 2, .int .i64 x, .string E0] 23)).alloc (.cells #[.int .i64 2, .int .i64 y, .string E0] 23)) (w2.heap.size + 1) 2 y E0 := by simpa using At.alloc (w2.alloc (.cells #[.int .i64 2, .int .i64 x, .string E0] 23)) 2 y E0
  refine (A1.out _).mono ?_
  rintro e w3 ⟨rfl, k⟩
  replace b := btrans b k
  replace pa := pa.keep k
  replace pb := pb.keep k
  clear k
  have qpa : _ ∧ _ ∧ _ := pa
  have zpa : w2.heap.size < w3.heap.size := block_lt_of_cell pa.1
  have qpb : _ ∧ _ ∧ _ := pb
  have zpb : w2.heap.size + 1 < w3.heap.size := block_lt_of_cell pb.1
  go_wp2_with fail
  clear qpa zpa qpb zpb
  have k : Below w3.heap.size w3 (w3.alloc (.cells #[.int .i64 2, .int .i64 (x + y), .string E0] 23)) := (Below.refl _ _).alloc (Nat.le_refl _) _
  replace b := btrans b k
  replace pa := pa.keep k
  replace pb := pb.keep k
  clear k
  have ps := At.alloc w3 2 (x + y) E0
  refine (S1.out _).mono ?_
  rintro e w4 ⟨rfl, k⟩
  replace b := btrans b k
  replace pa := pa.keep k
  replace pb := pb.keep k
  replace ps := ps.keep k
  clear k
  have qpa : _ ∧ _ ∧ _ := pa
  have zpa : w2.heap.size < w4.heap.size := block_lt_of_cell pa.1
  have qpb : _ ∧ _ ∧ _ := pb
  have zpb : w2.heap.size + 1 < w4.heap.size := block_lt_of_cell pb.1
  go_wp2_with fail
  clear qpa zpa qpb zpb
  have k : Below w4.heap.size w4 (w4.alloc (.cells #[.int .i64 2, .int .i64 x, .string E0] 23)) := (Below.refl _ _).alloc (Nat.le_refl _) _
  replace b := btrans b k
  replace pa := pa.keep k
  replace pb := pb.keep k
  replace ps := ps.keep k
  clear k
  have pd := At.alloc w4 2 x E0
  clear ps pd
  refine (D1.out _).mono ?_
  rintro e w5 ⟨rfl, k⟩
  replace b := btrans b k
  replace pa := pa.keep k
  replace pb := pb.keep k
  clear k
  have qpa : _ ∧ _ ∧ _ := pa
  have zpa : w2.heap.size < w5.heap.size := block_lt_of_cell pa.1
  have qpb : _ ∧ _ ∧ _ := pb
  have zpb : w2.heap.size + 1 < w5.heap.size := block_lt_of_cell pb.1
  go_wp2_with fail
  clear qpa zpa qpb zpb
  have k : Below w5.heap.size w5 (w5.alloc (.cells #[.int .i64 2, .int .i64 q, .string E0] 23)) := (Below.refl _ _).alloc (Nat.le_refl _) _
  replace b := btrans b k
  replace pa := pa.keep k
  replace pb := pb.keep k
  clear k
  have pq := At.alloc w5 2 q E0
  refine (O1.out _).mono ?_
  rintro e w6 ⟨rfl, k⟩
  replace b := btrans b k
  replace pa := pa.keep k
  replace pb := pb.keep k
  replace pq := pq.keep k
  clear k
  have qpa : _ ∧ _ ∧ _ := pa
  have zpa : w2.heap.size < w6.heap.size := block_lt_of_cell pa.1
  have qpb : _ ∧ _ ∧ _ := pb
  have zpb : w2.heap.size + 1 < w6.heap.size := block_lt_of_cell pb.1
  have qpq : _ ∧ _ ∧ _ := pq
  have zpq : w5.heap.size < w6.heap.size := block_lt_of_cell pq.1
  go_upto_region 13 with fail
  clear qpa zpa qpb zpb qpq zpq
  have k : Below w6.heap.size w6 (w6.alloc (.cells #[.int .i64 2, .int .i64 r, .string E0] 23)) := (Below.refl _ _).alloc (Nat.le_refl _) _
  replace b := btrans b k
  replace pa := pa.keep k
  replace pb := pb.keep k
  replace pq := pq.keep k
  clear k
  have pm := At.alloc w6 2 r E0
  go_cut [89] (fun s89 W => s89 = .bool false ∧ W = (w6.alloc (.cells #[.int .i64 2, .int .i64 r, .string E0] 23)))
  case first =>
    clear pa pb pq b
    rcases hs with ⟨s1, s2⟩ | ⟨s1, s2⟩ | ⟨s1, s2⟩
    all_goals
      go_wp2
      all_goals
        go_meet
        case rel => exact ⟨by simp; try omega, rfl⟩
  case rest =>
    obtain ⟨rfl, rfl⟩ := hcut
    clear hs
    have qpa : _ ∧ _ ∧ _ := pa
    have qpb : _ ∧ _ ∧ _ := pb
    have qpq : _ ∧ _ ∧ _ := pq
    have qpm : _ ∧ _ ∧ _ := pm
    go_wp2_with fail
    clear qpa qpb qpq qpm
    refine (M1.out _).mono ?_
    rintro e w7 ⟨rfl, k⟩
    replace b := btrans b k
    replace pa := pa.keep k
    replace pb := pb.keep k
    replace pq := pq.keep k
    replace pm := pm.keep k
    clear k
    have qpa : _ ∧ _ ∧ _ := pa
    have zpa : w2.heap.size < w7.heap.size := block_lt_of_cell pa.1
    have qpb : _ ∧ _ ∧ _ := pb
    have zpb : w2.heap.size + 1 < w7.heap.size := block_lt_of_cell pb.1
    have qpq : _ ∧ _ ∧ _ := pq
    have zpq : w5.heap.size < w7.heap.size := block_lt_of_cell pq.1
    have qpm : _ ∧ _ ∧ _ := pm
    have zpm : w6.heap.size < w7.heap.size := block_lt_of_cell pm.1
    go_wp2_with fail
    clear qpa zpa qpb zpb qpq zpq qpm zpm
    have k : Below w7.heap.size w7 (w7.alloc (.cells #[.int .i64 2, .int .i64 (q * y), .string E0] 23)) := (Below.refl _ _).alloc (Nat.le_refl _) _
    replace b := btrans b k
    replace pa := pa.keep k
    replace pb := pb.keep k
    replace pq := pq.keep k
    replace pm := pm.keep k
    clear k
    have pp := At.alloc w7 2 (q * y) E0
    refine (A2.out _).mono ?_
    rintro e w8 ⟨rfl, k⟩
    replace b := btrans b k
    replace pa := pa.keep k
    replace pb := pb.keep k
    replace pq := pq.keep k
    replace pm := pm.keep k
    replace pp := pp.keep k
    clear k
    have qpa : _ ∧ _ ∧ _ := pa
    have zpa : w2.heap.size < w8.heap.size := block_lt_of_cell pa.1
    have qpb : _ ∧ _ ∧ _ := pb
    have zpb : w2.heap.size + 1 < w8.heap.size := block_lt_of_cell pb.1
    have qpq : _ ∧ _ ∧ _ := pq
    have zpq : w5.heap.size < w8.heap.size := block_lt_of_cell pq.1
    have qpm : _ ∧ _ ∧ _ := pm
    have zpm : w6.heap.size < w8.heap.size := block_lt_of_cell pm.1
    have qpp : _ ∧ _ ∧ _ := pp
    have zpp : w7.heap.size < w8.heap.size := block_lt_of_cell pp.1
    go_upto_region 19 with fail
    go_cut [19] (fun s19 W => s19 = .bool true ∧ W = (w8.alloc (.cells #[.int .i64 2, .int .i64 x, .string E0] 23)))
    case first =>
      clear pa pb pq pp b qpa qpb qpq qpp zpa zpb zpq zpp
      rcases hn with ⟨n1, n2, n3, n4, n5⟩ | ⟨n1, n2, n3, n4, n5⟩ | ⟨n1, n2, n3⟩
      all_goals
        go_wp2
        all_goals
          go_meet
          case rel => exact ⟨by simp; try omega, rfl⟩
    case rest =>
      obtain ⟨rfl, rfl⟩ := hcut
      clear hn qpa zpa qpb zpb qpq zpq qpm zpm qpp zpp
      have k : Below w8.heap.size w8 (w8.alloc (.cells #[.int .i64 2, .int .i64 x, .string E0] 23)) := (Below.refl _ _).alloc (Nat.le_refl _) _
      replace b := btrans b k
      replace pa := pa.keep k
      replace pb := pb.keep k
      replace pq := pq.keep k
      replace pm := pm.keep k
      replace pp := pp.keep k
      clear k
      have pz := At.alloc w8 2 x E0
      have qpa : _ ∧ _ ∧ _ := pa
      have qpz : _ ∧ _ ∧ _ := pz
      go_wp2_with fail
      clear qpa qpz
      refine (alive_any _).mono ?_
      rintro e w9 ⟨rfl, k⟩
      replace b := btrans b k
      replace pa := pa.keep k
      replace pb := pb.keep k
      replace pq := pq.keep k
      replace pm := pm.keep k
      replace pp := pp.keep k
      replace pz := pz.keep k
      clear k
      go_wp2_with fail
      go_ret
      exact ⟨rfl, b⟩

set_option maxRecDepth 100000 in
set_option maxHeartbeats 2000000 in
theorem backNoOther (x y : Int) (hx : inR x) (hy : inR y) (h : ¬ inR (x + y)) (h0 : y ≠ 0) (hl : ¬ (x = -9223372036854775808 ∧ y = -1)) (w : World) : Calls Try.prog 5 #[.int .i64 x, .int .i64 y] w fun e w' => e = .returned (.bool true) ∧ Below w.heap.size w w' := by
  have a1 := add_no x y hx hy h
  have A1 : Hid _ := a1
  clear a1
  have d1 := div_ok x y hx h0 hl
  have o1 := mod_ok x y h0
  have m1 := mul_ok (x.tdiv y) y (tdiv_in hx h0 hl) h0 (back_r hx hy h0)
  have a2 := add_ok (x.tdiv y * y) (x.tmod y) (by rw [div_mod]; exact hx)
  rw [div_mod] at a2
  have t0 : (y == 0) = false := by simp [h0]
  have hs := sign3 x y
  have hn : (0 < y ∧ x.tmod y < y ∧ -y < x.tmod y ∧ wrap64 (-y) = -y ∧ (y == -9223372036854775808) = false) ∨ (y < 0 ∧ x.tmod y < -y ∧ y < x.tmod y ∧ wrap64 (-y) = -y ∧ (y == -9223372036854775808) = false) ∨ (wrap64 (-y) = y ∧ y < x.tmod y ∧ (y == -9223372036854775808) = true) := by
    have s := tmod_small x y h0
    by_cases e : y = -9223372036854775808
    · exact .inr (.inr ⟨neg_low e, by omega, by simp [e]⟩)
    · have e2 : (y == -9223372036854775808) = false := by simp [e]
      have e3 := neg_in hy e
      by_cases hp : 0 < y
      · exact .inl ⟨hp, by omega, by omega, e3, e2⟩
      · exact .inr (.inl ⟨by omega, by omega, by omega, e3, e2⟩)
  generalize x.tdiv y = q at *
  generalize x.tmod y = r at *
  have D1 : Hid _ := d1
  clear d1
  have O1 : Hid _ := o1
  clear o1
  have M1 : Hid _ := m1
  clear m1
  have A2 : Hid _ := a2
  clear a2
  have hv := run_vne
  have hw := run_veq
  have v1 : veq 2 x E0 2 x E0 = true := by simp [veq]
  clear h h0 hl hx hy
  go_enter Try.func5, Try.ntmps5
  have b : Below w.heap.size w w := Below.refl _ _
  go_wp2_with fail
  refine (int_any _ _).mono ?_
  rintro e w1 ⟨rfl, k⟩
  replace b := btrans b k
  clear k
  go_wp2_with fail
  refine (int_any _ _).mono ?_
  rintro e w2 ⟨rfl, k⟩
  replace b := btrans b k
  clear k
  go_wp2_with fail
  have k : Below w2.heap.size w2 (w2.alloc (.cells #[.int .i64 2, .int .i64 x, .string E0] 23)) := (Below.refl _ _).alloc (Nat.le_refl _) _
  replace b := btrans b k
  clear k
  have pa := At.alloc w2 2 x E0
  have k : Below (w2.alloc (.cells #[.int .i64 2, .int .i64 x, .string E0] 23)).heap.size (w2.alloc (.cells #[.int .i64 2, .int .i64 x, .string E0] 23)) ((w2.alloc (.cells #[.int .i64 2, .int .i64 x, .string E0] 23)).alloc (.cells #[.int .i64 2, .int .i64 y, .string E0] 23)) := (Below.refl _ _).alloc (Nat.le_refl _) _
  replace b := btrans b k
  replace pa := pa.keep k
  clear k
  have pb : At ((w2.alloc (.cells #[.int .i64 2, .int .i64 x, .string E0] 23)).alloc (.cells #[.int .i64 2, .int .i64 y, .string E0] 23)) (w2.heap.size + 1) 2 y E0 := by simpa using At.alloc (w2.alloc (.cells #[.int .i64 2, .int .i64 x, .string E0] 23)) 2 y E0
  refine (A1.out _).mono ?_
  rintro e w3 ⟨rfl, k⟩
  replace b := btrans b k
  replace pa := pa.keep k
  replace pb := pb.keep k
  clear k
  have qpa : _ ∧ _ ∧ _ := pa
  have zpa : w2.heap.size < w3.heap.size := block_lt_of_cell pa.1
  have qpb : _ ∧ _ ∧ _ := pb
  have zpb : w2.heap.size + 1 < w3.heap.size := block_lt_of_cell pb.1
  go_wp2_with fail
  clear qpa zpa qpb zpb
  have k : Below w3.heap.size w3 (w3.alloc (.cells #[.int .i64 0, .int .i64 0, .string E0] 23)) := (Below.refl _ _).alloc (Nat.le_refl _) _
  replace b := btrans b k
  replace pa := pa.keep k
  replace pb := pb.keep k
  clear k
  have ps := At.alloc w3 0 0 E0
  clear ps
  refine (D1.out _).mono ?_
  rintro e w4 ⟨rfl, k⟩
  replace b := btrans b k
  replace pa := pa.keep k
  replace pb := pb.keep k
  clear k
  have qpa : _ ∧ _ ∧ _ := pa
  have zpa : w2.heap.size < w4.heap.size := block_lt_of_cell pa.1
  have qpb : _ ∧ _ ∧ _ := pb
  have zpb : w2.heap.size + 1 < w4.heap.size := block_lt_of_cell pb.1
  go_wp2_with fail
  clear qpa zpa qpb zpb
  have k : Below w4.heap.size w4 (w4.alloc (.cells #[.int .i64 2, .int .i64 q, .string E0] 23)) := (Below.refl _ _).alloc (Nat.le_refl _) _
  replace b := btrans b k
  replace pa := pa.keep k
  replace pb := pb.keep k
  clear k
  have pq := At.alloc w4 2 q E0
  refine (O1.out _).mono ?_
  rintro e w5 ⟨rfl, k⟩
  replace b := btrans b k
  replace pa := pa.keep k
  replace pb := pb.keep k
  replace pq := pq.keep k
  clear k
  have qpa : _ ∧ _ ∧ _ := pa
  have zpa : w2.heap.size < w5.heap.size := block_lt_of_cell pa.1
  have qpb : _ ∧ _ ∧ _ := pb
  have zpb : w2.heap.size + 1 < w5.heap.size := block_lt_of_cell pb.1
  have qpq : _ ∧ _ ∧ _ := pq
  have zpq : w4.heap.size < w5.heap.size := block_lt_of_cell pq.1
  go_upto_region 13 with fail
  clear qpa zpa qpb zpb qpq zpq
  have k : Below w5.heap.size w5 (w5.alloc (.cells #[.int .i64 2, .int .i64 r, .string E0] 23)) := (Below.refl _ _).alloc (Nat.le_refl _) _
  replace b := btrans b k
  replace pa := pa.keep k
  replace pb := pb.keep k
  replace pq := pq.keep k
  clear k
  have pm := At.alloc w5 2 r E0
  go_cut [89] (fun s89 W => s89 = .bool false ∧ W = (w5.alloc (.cells #[.int .i64 2, .int .i64 r, .string E0] 23)))
  case first =>
    clear pa pb pq b
    rcases hs with ⟨s1, s2⟩ | ⟨s1, s2⟩ | ⟨s1, s2⟩
    all_goals
      go_wp2
      all_goals
        go_meet
        case rel => exact ⟨by simp; try omega, rfl⟩
  case rest =>
    obtain ⟨rfl, rfl⟩ := hcut
    clear hs
    have qpa : _ ∧ _ ∧ _ := pa
    have qpb : _ ∧ _ ∧ _ := pb
    have qpq : _ ∧ _ ∧ _ := pq
    have qpm : _ ∧ _ ∧ _ := pm
    go_wp2_with fail
    clear qpa qpb qpq qpm
    refine (M1.out _).mono ?_
    rintro e w6 ⟨rfl, k⟩
    replace b := btrans b k
    replace pa := pa.keep k
    replace pb := pb.keep k
    replace pq := pq.keep k
    replace pm := pm.keep k
    clear k
    have qpa : _ ∧ _ ∧ _ := pa
    have zpa : w2.heap.size < w6.heap.size := block_lt_of_cell pa.1
    have qpb : _ ∧ _ ∧ _ := pb
    have zpb : w2.heap.size + 1 < w6.heap.size := block_lt_of_cell pb.1
    have qpq : _ ∧ _ ∧ _ := pq
    have zpq : w4.heap.size < w6.heap.size := block_lt_of_cell pq.1
    have qpm : _ ∧ _ ∧ _ := pm
    have zpm : w5.heap.size < w6.heap.size := block_lt_of_cell pm.1
    go_wp2_with fail
    clear qpa zpa qpb zpb qpq zpq qpm zpm
    have k : Below w6.heap.size w6 (w6.alloc (.cells #[.int .i64 2, .int .i64 (q * y), .string E0] 23)) := (Below.refl _ _).alloc (Nat.le_refl _) _
    replace b := btrans b k
    replace pa := pa.keep k
    replace pb := pb.keep k
    replace pq := pq.keep k
    replace pm := pm.keep k
    clear k
    have pp := At.alloc w6 2 (q * y) E0
    refine (A2.out _).mono ?_
    rintro e w7 ⟨rfl, k⟩
    replace b := btrans b k
    replace pa := pa.keep k
    replace pb := pb.keep k
    replace pq := pq.keep k
    replace pm := pm.keep k
    replace pp := pp.keep k
    clear k
    have qpa : _ ∧ _ ∧ _ := pa
    have zpa : w2.heap.size < w7.heap.size := block_lt_of_cell pa.1
    have qpb : _ ∧ _ ∧ _ := pb
    have zpb : w2.heap.size + 1 < w7.heap.size := block_lt_of_cell pb.1
    have qpq : _ ∧ _ ∧ _ := pq
    have zpq : w4.heap.size < w7.heap.size := block_lt_of_cell pq.1
    have qpm : _ ∧ _ ∧ _ := pm
    have zpm : w5.heap.size < w7.heap.size := block_lt_of_cell pm.1
    have qpp : _ ∧ _ ∧ _ := pp
    have zpp : w6.heap.size < w7.heap.size := block_lt_of_cell pp.1
    go_upto_region 19 with fail
    go_cut [19] (fun s19 W => s19 = .bool true ∧ W = (w7.alloc (.cells #[.int .i64 2, .int .i64 x, .string E0] 23)))
    case first =>
      clear pa pb pq pp b qpa qpb qpq qpp zpa zpb zpq zpp
      rcases hn with ⟨n1, n2, n3, n4, n5⟩ | ⟨n1, n2, n3, n4, n5⟩ | ⟨n1, n2, n3⟩
      all_goals
        go_wp2
        all_goals
          go_meet
          case rel => exact ⟨by simp; try omega, rfl⟩
    case rest =>
      obtain ⟨rfl, rfl⟩ := hcut
      clear hn qpa zpa qpb zpb qpq zpq qpm zpm qpp zpp
      have k : Below w7.heap.size w7 (w7.alloc (.cells #[.int .i64 2, .int .i64 x, .string E0] 23)) := (Below.refl _ _).alloc (Nat.le_refl _) _
      replace b := btrans b k
      replace pa := pa.keep k
      replace pb := pb.keep k
      replace pq := pq.keep k
      replace pm := pm.keep k
      replace pp := pp.keep k
      clear k
      have pz := At.alloc w7 2 x E0
      have qpa : _ ∧ _ ∧ _ := pa
      have qpz : _ ∧ _ ∧ _ := pz
      go_wp2_with fail
      clear qpa qpz
      refine (alive_any _).mono ?_
      rintro e w8 ⟨rfl, k⟩
      replace b := btrans b k
      replace pa := pa.keep k
      replace pb := pb.keep k
      replace pq := pq.keep k
      replace pm := pm.keep k
      replace pp := pp.keep k
      replace pz := pz.keep k
      clear k
      go_wp2_with fail
      go_ret
      exact ⟨rfl, b⟩

/-- Whatever two numbers: the law answers true. -/
theorem back_law (x y : Int) (hx : inR x) (hy : inR y) (w : World) : Calls Try.prog 5 #[.int .i64 x, .int .i64 y] w fun e w' => e = .returned (.bool true) ∧ Below w.heap.size w w' := by
  by_cases h0 : y = 0
  · exact backZero x y hx hy (by subst h0; rw [Int.add_zero]; exact hx) h0 w
  by_cases hl : x = -9223372036854775808 ∧ y = -1
  · exact backLow x y hx hy (by unfold inR; omega) hl.1 hl.2 w
  by_cases h : inR (x + y)
  · exact backOkOther x y hx hy h h0 hl w
  · exact backNoOther x y hx hy h h0 hl w

end Go.Proofs.Ytpmkmemdammiaaa
