/- The chapter's example, as the statements' own 'alive' asks it: it answers true in whatever world; nothing that was there has turned. -/
import Derived.Test.YtpmkmemdammiaabLogic
namespace Go.Proofs.Ytpmkmemdammiaab
open Go.RowKit Go.Sort

theorem and_ex (w : World) : Calls Try.prog 13 #[V 0 0 E0, V 1 (oneOf false) E0] w fun e w' => e = .returned (.tuple #[V 1 0 E0, .int .i64 0]) ∧ Below w.heap.size w w' := by
  have h := and_any 0 0 E0 1 (oneOf false) E0 w
  have e1 : decV false 0 0 E0 1 (oneOf false) E0 = V 1 0 E0 := by simp [decV, fitsB, isNull, veq, oneOf]
  have e2 : decE 0 0 E0 1 (oneOf false) E0 = 0 := by simp [decE, fitsB, isNull, veq, oneOf]
  rw [e1, e2] at h
  exact h
theorem div_ex (w : World) : Calls Try.prog 16 #[V 2 (-7) E0, V 2 2 E0] w fun e w' => e = .returned (.tuple #[V 2 (-3) E0, .int .i64 0]) ∧ Below w.heap.size w w' :=
  div_ok (-7) 2 (by unfold inR; omega) (by omega) (by omega) w
theorem mod_ex (w : World) : Calls Try.prog 18 #[V 2 (-7) E0, V 2 2 E0] w fun e w' => e = .returned (.tuple #[V 2 (-1) E0, .int .i64 0]) ∧ Below w.heap.size w w' :=
  mod_ok (-7) 2 (by omega) w
theorem add_ex (w : World) : Calls Try.prog 19 #[V 2 9223372036854775807 E0, V 2 1 E0] w fun e w' => e = .returned (.tuple #[V 0 0 E0, .int .i64 4]) ∧ Below w.heap.size w w' :=
  add_no 9223372036854775807 1 (by unfold inR; omega) (by unfold inR; omega) (by unfold inR; omega) w

set_option maxHeartbeats 1000000 in
theorem alive_any (w : World) : Calls Try.prog 7 #[] w fun e w' => e = .returned (.bool true) ∧ Below w.heap.size w w' := by
  go_enter Try.func7, Try.ntmps7
  have b : Below w.heap.size w w := Below.refl _ _
  go_wp2_with fail
  refine (null_any _).mono ?_
  rintro e w1 ⟨rfl, k⟩
  replace b := btrans b k
  clear k
  go_wp2_with fail
  refine (bool_any _ _).mono ?_
  rintro e w2 ⟨rfl, k⟩
  replace b := btrans b k
  clear k
  go_wp2_with fail
  refine (and_ex _).mono ?_
  rintro e w3 ⟨rfl, k⟩
  replace b := btrans b k
  clear k
  go_wp2_with fail
  have k : Below w3.heap.size w3 (w3.alloc (.cells #[.int .i64 1, .int .i64 0, .string E0] 23)) := (Below.refl _ _).alloc (Nat.le_refl _) _
  replace b := btrans b k
  clear k
  have pa := At.alloc w3 1 0 E0
  refine (int_any _ _).mono ?_
  rintro e w4 ⟨rfl, k⟩
  replace b := btrans b k
  replace pa := pa.keep k
  clear k
  go_wp2_with fail
  refine (int_any _ _).mono ?_
  rintro e w5 ⟨rfl, k⟩
  replace b := btrans b k
  replace pa := pa.keep k
  clear k
  go_wp2_with fail
  refine (div_ex _).mono ?_
  rintro e w6 ⟨rfl, k⟩
  replace b := btrans b k
  replace pa := pa.keep k
  clear k
  go_wp2_with fail
  have k : Below w6.heap.size w6 (w6.alloc (.cells #[.int .i64 2, .int .i64 (-3), .string E0] 23)) := (Below.refl _ _).alloc (Nat.le_refl _) _
  replace b := btrans b k
  replace pa := pa.keep k
  clear k
  have pb := At.alloc w6 2 (-3) E0
  refine (int_any _ _).mono ?_
  rintro e w7 ⟨rfl, k⟩
  replace b := btrans b k
  replace pa := pa.keep k
  replace pb := pb.keep k
  clear k
  go_wp2_with fail
  refine (int_any _ _).mono ?_
  rintro e w8 ⟨rfl, k⟩
  replace b := btrans b k
  replace pa := pa.keep k
  replace pb := pb.keep k
  clear k
  go_wp2_with fail
  refine (mod_ex _).mono ?_
  rintro e w9 ⟨rfl, k⟩
  replace b := btrans b k
  replace pa := pa.keep k
  replace pb := pb.keep k
  clear k
  go_wp2_with fail
  have k : Below w9.heap.size w9 (w9.alloc (.cells #[.int .i64 2, .int .i64 (-1), .string E0] 23)) := (Below.refl _ _).alloc (Nat.le_refl _) _
  replace b := btrans b k
  replace pa := pa.keep k
  replace pb := pb.keep k
  clear k
  have pc := At.alloc w9 2 (-1) E0
  refine (int_any _ _).mono ?_
  rintro e w10 ⟨rfl, k⟩
  replace b := btrans b k
  replace pa := pa.keep k
  replace pb := pb.keep k
  replace pc := pc.keep k
  clear k
  go_wp2_with fail
  refine (int_any _ _).mono ?_
  rintro e w11 ⟨rfl, k⟩
  replace b := btrans b k
  replace pa := pa.keep k
  replace pb := pb.keep k
  replace pc := pc.keep k
  clear k
  go_wp2_with fail
  refine (add_ex _).mono ?_
  rintro e w12 ⟨rfl, k⟩
  replace b := btrans b k
  replace pa := pa.keep k
  replace pb := pb.keep k
  replace pc := pc.keep k
  clear k
  go_wp2_with fail
  have k : Below w12.heap.size w12 (w12.alloc (.cells #[.int .i64 0, .int .i64 0, .string E0] 23)) := (Below.refl _ _).alloc (Nat.le_refl _) _
  replace b := btrans b k
  replace pa := pa.keep k
  replace pb := pb.keep k
  replace pc := pc.keep k
  clear k
  have pd := At.alloc w12 0 0 E0
  have ca := pa.cells
  have cb := pb.cells
  have cc := pc.cells
  have hv := run_veq
  have v1 : veq 1 0 E0 1 (oneOf false) E0 = true := by simp [veq, oneOf]
  have v2 : veq 2 (-3) E0 2 (-3) E0 = true := by simp [veq]
  have v3 : veq 2 (-1) E0 2 (-1) E0 = true := by simp [veq]
  clear pa pb pc pd
  refine wp_region_quiet_below (by kernel_rfl) (by kernel_rfl) ?_
  repeat (quiet_step (first | exact Calls.regrown_of (refBool_any _ _) | exact Calls.regrown_of (refInt_any _ _)))
  refine wpQuiet_nil ?_
  rintro _ ⟨⟨dq, osq⟩, rfl⟩
  have k := below_regrown (w12.alloc (.cells #[.int .i64 0, .int .i64 0, .string E0] 23)) dq osq
  clear ca cb cc hv v1 v2 v3
  generalize grow (redrawn (w12.alloc (.cells #[.int .i64 0, .int .i64 0, .string E0] 23)) dq) osq = w13 at k ⊢
  replace b := btrans b k
  clear k
  go_wp2
  go_ret
  exact ⟨rfl, b⟩

end Go.Proofs.Ytpmkmemdammiaab
