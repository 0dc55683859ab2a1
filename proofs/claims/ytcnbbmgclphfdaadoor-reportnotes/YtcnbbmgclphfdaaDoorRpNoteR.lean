/- Contract of how a note is told, the document's. -/
import Derived.Test.YtcnbbmgclphfdaaDoorRpNote
namespace Go.Proofs.YtcnbbmgclphfdaaDoor
open Go.RowKit Go.Sort

set_option maxHeartbeats 4000000 in
set_option maxRecDepth 100000 in
theorem noteR_zero (w : World) (s1 s2 : ByteArray) (zt : s1.size ≤ 3000) (a n y : Int) (h0 : -9223372036854775808 ≤ n) (h1 : n ≤ 9223372036854775807) :
    Calls Tryd.prog 18 #[.string s1, .string s2, .agg #[.int .i64 0, .int .i64 a, .int .i64 n, .int .i64 y]] w fun e w' => e = .returned (.string (noteH s1 0 a n)) ∧ Below w.heap.size w w' := by
  have hP : partS 0 = ⟨#[115, 99, 104, 101, 109, 97]⟩ := rfl
  have HA : Hid (noteH s1 0 a n = ((((((⟨#[115, 99, 104, 101, 109, 97]⟩ ++ ⟨#[32]⟩) ++ decB ((lineS s1 a).1 : Int)) ++ ⟨#[58]⟩) ++ decB ((lineS s1 a).2 : Int)) ++ ⟨#[58, 32]⟩) ++ whyS n)) := by
    show noteH s1 0 a n = _
    rw [← hP]; rfl
  clear hP
  obtain ⟨W, hW⟩ : ∃ W, W = (w.alloc (.cells #[.int .i64 0, .int .i64 a, .int .i64 n, .int .i64 y] 40)).alloc (.cells #[.string ⟨#[115, 99, 104, 101, 109, 97]⟩, .string ⟨#[115, 99, 114, 105, 112, 116]⟩, .string ⟨#[102, 108, 111, 119]⟩] 9) := ⟨_, rfl⟩
  have bW : Below w.heap.size w W := by rw [hW]; exact ((Below.refl _ _).alloc (Nat.le_refl _) _).alloc (by simp) _
  have c0 : W.cell? ⟨w.heap.size, 0, none⟩ = some (.int .i64 0) := by rw [hW]; simp [go_sem]
  have c2 : W.cell? ⟨w.heap.size, 2, none⟩ = some (.int .i64 n) := by rw [hW]; simp [go_sem]
  have c1 : W.cell? ⟨w.heap.size, 1, none⟩ = some (.int .i64 a) := by rw [hW]; simp [go_sem]
  have c3 : W.cell? ⟨w.heap.size, 3, none⟩ = some (.int .i64 y) := by rw [hW]; simp [go_sem]
  have hln := lineS_small zt a
  have a1 := line_ref W s1 (by omega) a
  have sw := whyS_size h0 h1
  have kW : Hid (∀ w0, Calls Tryd.prog 20 #[.int .i64 n] w0 fun e w' => e = .returned (.string (whyS n)) ∧ Below w0.heap.size w0 w') := fun w0 => why_ref w0 n h0 h1
  generalize whyS n = YY at *
  generalize lineS s1 a = ab at *
  obtain ⟨l1, l2⟩ := ab
  dsimp only at hln a1 HA
  have d1 : Hid (∀ w0 (x : Nat), x ≤ 3002 → Calls Tryd.prog 33 #[.int .i64 (x : Int)] w0 fun e w' => e = .returned (.string (decB (x : Int))) ∧ Below w0.heap.size w0 w') := fun w0 x hx => dec_any w0 x (by omega) (by omega)
  have e1 : l1 ≤ 3002 := by omega
  have e2 : l2 ≤ 3002 := hln.2
  have z1 := decB_size (n := (l1 : Int)) (by omega) (by omega)
  have z2 := decB_size (n := (l2 : Int)) (by omega) (by omega)
  clear hln h0 h1 zt
  go_enter Tryd.func18, Tryd.ntmps18
  go_wp2_with fail
  rw [← hW]
  clear hW
  refine a1.mono ?_
  rintro e w3 ⟨rfl, b1⟩
  replace c0 := cell_keep c0 b1
  replace c2 := cell_keep c2 b1
  replace c3 := cell_keep c3 b1
  replace bW := btrans bW b1
  clear a1 b1 c1
  go_wp2_with fail
  have k1 : Hid (∀ d os, Calls Tryd.prog 20 #[.int .i64 n] (grow (redrawn w3 d) os) fun e w' => e = .returned (.string YY) ∧ Below (grow (redrawn w3 d) os).heap.size (grow (redrawn w3 d) os) w') := fun d os => kW.out _
  have k2 : Hid (∀ d os (x : Nat), x ≤ 3002 → Calls Tryd.prog 33 #[.int .i64 (x : Int)] (grow (redrawn w3 d) os) fun e w' => e = .returned (.string (decB (x : Int))) ∧ Below (grow (redrawn w3 d) os).heap.size (grow (redrawn w3 d) os) w') := fun d os x hx => d1.out _ x hx
  have g2 : ∀ d os, (grow (redrawn w3 d) os).cell? ⟨w.heap.size, 2, none⟩ = some (.int .i64 n) := fun d os => cell_regrown c2 d os
  clear kW d1
  refine wp_region_quiet_below (by kernel_rfl) (by kernel_rfl) ?_
  repeat (first | go_big_quiet_step (first | (go_at_call 33; exact Calls.regrown_of (k2.out _ _ _ (by assumption))) | (go_at_call 20; exact Calls.regrown_of (k1.out _ _))) | quiet_step (first | (go_at_call 33; exact Calls.regrown_of (k2.out _ _ _ (by assumption))) | (go_at_call 20; exact Calls.regrown_of (k1.out _ _))))
  refine wpQuiet_nil ?_
  rintro _ ⟨⟨dq, osq⟩, rfl⟩
  have hb := below_regrown w3 dq osq
  clear g2 k1 k2
  generalize grow (redrawn w3 dq) osq = w4 at hb ⊢
  replace c0 := cell_keep c0 hb
  replace c3 := cell_keep c3 hb
  replace bW := btrans bW hb
  have ba : Below w4.heap.size w4 (w4.alloc (.cells #[.string ⟨#[]⟩, .string ⟨#[112, 114, 105, 110, 116]⟩, .string ⟨#[99, 111, 108, 117, 109, 110]⟩, .string ⟨#[114, 111, 119, 115]⟩, .string ⟨#[115, 97, 118, 101, 100]⟩, .string ⟨#[105, 110, 112, 117, 116]⟩] 9)) := (Below.refl _ _).alloc (Nat.le_refl _) _
  have c0' := cell_keep c0 ba
  have c3' := cell_keep c3 ba
  clear c2 hb ba
  go_wp2_with fail
  go_ret
  exact ⟨by rw [HA.out]; rfl, bW.alloc bW.size _⟩

set_option maxHeartbeats 4000000 in
set_option maxRecDepth 100000 in
theorem noteR_one (w : World) (s1 s2 : ByteArray) (zt : s2.size ≤ 3000) (a n y : Int) (h0 : -9223372036854775808 ≤ n) (h1 : n ≤ 9223372036854775807) :
    Calls Tryd.prog 18 #[.string s1, .string s2, .agg #[.int .i64 1, .int .i64 a, .int .i64 n, .int .i64 y]] w fun e w' => e = .returned (.string (noteH s2 1 a n)) ∧ Below w.heap.size w w' := by
  have hP : partS 1 = ⟨#[115, 99, 114, 105, 112, 116]⟩ := rfl
  have HA : Hid (noteH s2 1 a n = ((((((⟨#[115, 99, 114, 105, 112, 116]⟩ ++ ⟨#[32]⟩) ++ decB ((lineS s2 a).1 : Int)) ++ ⟨#[58]⟩) ++ decB ((lineS s2 a).2 : Int)) ++ ⟨#[58, 32]⟩) ++ whyS n)) := by
    show noteH s2 1 a n = _
    rw [← hP]; rfl
  clear hP
  obtain ⟨W, hW⟩ : ∃ W, W = (w.alloc (.cells #[.int .i64 1, .int .i64 a, .int .i64 n, .int .i64 y] 40)).alloc (.cells #[.string ⟨#[115, 99, 104, 101, 109, 97]⟩, .string ⟨#[115, 99, 114, 105, 112, 116]⟩, .string ⟨#[102, 108, 111, 119]⟩] 9) := ⟨_, rfl⟩
  have bW : Below w.heap.size w W := by rw [hW]; exact ((Below.refl _ _).alloc (Nat.le_refl _) _).alloc (by simp) _
  have c0 : W.cell? ⟨w.heap.size, 0, none⟩ = some (.int .i64 1) := by rw [hW]; simp [go_sem]
  have c2 : W.cell? ⟨w.heap.size, 2, none⟩ = some (.int .i64 n) := by rw [hW]; simp [go_sem]
  have c1 : W.cell? ⟨w.heap.size, 1, none⟩ = some (.int .i64 a) := by rw [hW]; simp [go_sem]
  have c3 : W.cell? ⟨w.heap.size, 3, none⟩ = some (.int .i64 y) := by rw [hW]; simp [go_sem]
  have hln := lineS_small zt a
  have a1 := line_ref W s2 (by omega) a
  have sw := whyS_size h0 h1
  have kW : Hid (∀ w0, Calls Tryd.prog 20 #[.int .i64 n] w0 fun e w' => e = .returned (.string (whyS n)) ∧ Below w0.heap.size w0 w') := fun w0 => why_ref w0 n h0 h1
  generalize whyS n = YY at *
  generalize lineS s2 a = ab at *
  obtain ⟨l1, l2⟩ := ab
  dsimp only at hln a1 HA
  have d1 : Hid (∀ w0 (x : Nat), x ≤ 3002 → Calls Tryd.prog 33 #[.int .i64 (x : Int)] w0 fun e w' => e = .returned (.string (decB (x : Int))) ∧ Below w0.heap.size w0 w') := fun w0 x hx => dec_any w0 x (by omega) (by omega)
  have e1 : l1 ≤ 3002 := by omega
  have e2 : l2 ≤ 3002 := hln.2
  have z1 := decB_size (n := (l1 : Int)) (by omega) (by omega)
  have z2 := decB_size (n := (l2 : Int)) (by omega) (by omega)
  clear hln h0 h1 zt
  go_enter Tryd.func18, Tryd.ntmps18
  go_wp2_with fail
  rw [← hW]
  clear hW
  refine a1.mono ?_
  rintro e w3 ⟨rfl, b1⟩
  replace c0 := cell_keep c0 b1
  replace c2 := cell_keep c2 b1
  replace c3 := cell_keep c3 b1
  replace bW := btrans bW b1
  clear a1 b1 c1
  go_wp2_with fail
  have k1 : Hid (∀ d os, Calls Tryd.prog 20 #[.int .i64 n] (grow (redrawn w3 d) os) fun e w' => e = .returned (.string YY) ∧ Below (grow (redrawn w3 d) os).heap.size (grow (redrawn w3 d) os) w') := fun d os => kW.out _
  have k2 : Hid (∀ d os (x : Nat), x ≤ 3002 → Calls Tryd.prog 33 #[.int .i64 (x : Int)] (grow (redrawn w3 d) os) fun e w' => e = .returned (.string (decB (x : Int))) ∧ Below (grow (redrawn w3 d) os).heap.size (grow (redrawn w3 d) os) w') := fun d os x hx => d1.out _ x hx
  have g2 : ∀ d os, (grow (redrawn w3 d) os).cell? ⟨w.heap.size, 2, none⟩ = some (.int .i64 n) := fun d os => cell_regrown c2 d os
  clear kW d1
  refine wp_region_quiet_below (by kernel_rfl) (by kernel_rfl) ?_
  repeat (first | go_big_quiet_step (first | (go_at_call 33; exact Calls.regrown_of (k2.out _ _ _ (by assumption))) | (go_at_call 20; exact Calls.regrown_of (k1.out _ _))) | quiet_step (first | (go_at_call 33; exact Calls.regrown_of (k2.out _ _ _ (by assumption))) | (go_at_call 20; exact Calls.regrown_of (k1.out _ _))))
  refine wpQuiet_nil ?_
  rintro _ ⟨⟨dq, osq⟩, rfl⟩
  have hb := below_regrown w3 dq osq
  clear g2 k1 k2
  generalize grow (redrawn w3 dq) osq = w4 at hb ⊢
  replace c0 := cell_keep c0 hb
  replace c3 := cell_keep c3 hb
  replace bW := btrans bW hb
  have ba : Below w4.heap.size w4 (w4.alloc (.cells #[.string ⟨#[]⟩, .string ⟨#[112, 114, 105, 110, 116]⟩, .string ⟨#[99, 111, 108, 117, 109, 110]⟩, .string ⟨#[114, 111, 119, 115]⟩, .string ⟨#[115, 97, 118, 101, 100]⟩, .string ⟨#[105, 110, 112, 117, 116]⟩] 9)) := (Below.refl _ _).alloc (Nat.le_refl _) _
  have c0' := cell_keep c0 ba
  have c3' := cell_keep c3 ba
  clear c2 hb ba
  go_wp2_with fail
  go_ret
  exact ⟨by rw [HA.out]; rfl, bW.alloc bW.size _⟩

set_option maxHeartbeats 4000000 in
set_option maxRecDepth 100000 in
theorem noteR_two (w : World) (s1 s2 : ByteArray) (zt : s2.size ≤ 3000) (a n y : Int) (h0 : -9223372036854775808 ≤ n) (h1 : n ≤ 9223372036854775807) :
    Calls Tryd.prog 18 #[.string s1, .string s2, .agg #[.int .i64 2, .int .i64 a, .int .i64 n, .int .i64 y]] w fun e w' => e = .returned (.string (noteH s2 2 a n ++ wordS targetW y E0)) ∧ Below w.heap.size w w' := by
  have hP : partS 2 = ⟨#[102, 108, 111, 119]⟩ := rfl
  have HA : Hid (noteH s2 2 a n = ((((((⟨#[102, 108, 111, 119]⟩ ++ ⟨#[32]⟩) ++ decB ((lineS s2 a).1 : Int)) ++ ⟨#[58]⟩) ++ decB ((lineS s2 a).2 : Int)) ++ ⟨#[58, 32]⟩) ++ whyS n)) := by
    show noteH s2 2 a n = _
    rw [← hP]; rfl
  clear hP
  obtain ⟨W, hW⟩ : ∃ W, W = (w.alloc (.cells #[.int .i64 2, .int .i64 a, .int .i64 n, .int .i64 y] 40)).alloc (.cells #[.string ⟨#[115, 99, 104, 101, 109, 97]⟩, .string ⟨#[115, 99, 114, 105, 112, 116]⟩, .string ⟨#[102, 108, 111, 119]⟩] 9) := ⟨_, rfl⟩
  have bW : Below w.heap.size w W := by rw [hW]; exact ((Below.refl _ _).alloc (Nat.le_refl _) _).alloc (by simp) _
  have c0 : W.cell? ⟨w.heap.size, 0, none⟩ = some (.int .i64 2) := by rw [hW]; simp [go_sem]
  have c2 : W.cell? ⟨w.heap.size, 2, none⟩ = some (.int .i64 n) := by rw [hW]; simp [go_sem]
  have c1 : W.cell? ⟨w.heap.size, 1, none⟩ = some (.int .i64 a) := by rw [hW]; simp [go_sem]
  have c3 : W.cell? ⟨w.heap.size, 3, none⟩ = some (.int .i64 y) := by rw [hW]; simp [go_sem]
  have hln := lineS_small zt a
  have a1 := line_ref W s2 (by omega) a
  have sw := whyS_size h0 h1
  have kW : Hid (∀ w0, Calls Tryd.prog 20 #[.int .i64 n] w0 fun e w' => e = .returned (.string (whyS n)) ∧ Below w0.heap.size w0 w') := fun w0 => why_ref w0 n h0 h1
  generalize whyS n = YY at *
  generalize lineS s2 a = ab at *
  obtain ⟨l1, l2⟩ := ab
  dsimp only at hln a1 HA
  have d1 : Hid (∀ w0 (x : Nat), x ≤ 3002 → Calls Tryd.prog 33 #[.int .i64 (x : Int)] w0 fun e w' => e = .returned (.string (decB (x : Int))) ∧ Below w0.heap.size w0 w') := fun w0 x hx => dec_any w0 x (by omega) (by omega)
  have e1 : l1 ≤ 3002 := by omega
  have e2 : l2 ≤ 3002 := hln.2
  have z1 := decB_size (n := (l1 : Int)) (by omega) (by omega)
  have z2 := decB_size (n := (l2 : Int)) (by omega) (by omega)
  clear hln h0 h1 zt
  go_enter Tryd.func18, Tryd.ntmps18
  go_wp2_with fail
  rw [← hW]
  clear hW
  refine a1.mono ?_
  rintro e w3 ⟨rfl, b1⟩
  replace c0 := cell_keep c0 b1
  replace c2 := cell_keep c2 b1
  replace c3 := cell_keep c3 b1
  replace bW := btrans bW b1
  clear a1 b1 c1
  go_wp2_with fail
  have k1 : Hid (∀ d os, Calls Tryd.prog 20 #[.int .i64 n] (grow (redrawn w3 d) os) fun e w' => e = .returned (.string YY) ∧ Below (grow (redrawn w3 d) os).heap.size (grow (redrawn w3 d) os) w') := fun d os => kW.out _
  have k2 : Hid (∀ d os (x : Nat), x ≤ 3002 → Calls Tryd.prog 33 #[.int .i64 (x : Int)] (grow (redrawn w3 d) os) fun e w' => e = .returned (.string (decB (x : Int))) ∧ Below (grow (redrawn w3 d) os).heap.size (grow (redrawn w3 d) os) w') := fun d os x hx => d1.out _ x hx
  have g2 : ∀ d os, (grow (redrawn w3 d) os).cell? ⟨w.heap.size, 2, none⟩ = some (.int .i64 n) := fun d os => cell_regrown c2 d os
  clear kW d1
  refine wp_region_quiet_below (by kernel_rfl) (by kernel_rfl) ?_
  repeat (first | go_big_quiet_step (first | (go_at_call 33; exact Calls.regrown_of (k2.out _ _ _ (by assumption))) | (go_at_call 20; exact Calls.regrown_of (k1.out _ _))) | quiet_step (first | (go_at_call 33; exact Calls.regrown_of (k2.out _ _ _ (by assumption))) | (go_at_call 20; exact Calls.regrown_of (k1.out _ _))))
  refine wpQuiet_nil ?_
  rintro _ ⟨⟨dq, osq⟩, rfl⟩
  have hb := below_regrown w3 dq osq
  clear g2 k1 k2
  generalize grow (redrawn w3 dq) osq = w4 at hb ⊢
  replace c0 := cell_keep c0 hb
  replace c3 := cell_keep c3 hb
  replace bW := btrans bW hb
  have ba : Below w4.heap.size w4 (w4.alloc (.cells #[.string ⟨#[]⟩, .string ⟨#[112, 114, 105, 110, 116]⟩, .string ⟨#[99, 111, 108, 117, 109, 110]⟩, .string ⟨#[114, 111, 119, 115]⟩, .string ⟨#[115, 97, 118, 101, 100]⟩, .string ⟨#[105, 110, 112, 117, 116]⟩] 9)) := (Below.refl _ _).alloc (Nat.le_refl _) _
  have c0' := cell_keep c0 ba
  have c3' := cell_keep c3 ba
  clear c2 hb ba
  by_cases hy : 1 ≤ y ∧ y ≤ 5
  · have hcase : y = 1 ∨ y = 2 ∨ y = 3 ∨ y = 4 ∨ y = 5 := by omega
    clear hy
    rcases hcase with rfl | rfl | rfl | rfl | rfl
    all_goals
      go_wp2_with fail
      go_ret
      refine ⟨?_, bW.alloc bW.size _⟩
      rw [HA.out]
      refine congrArg (fun x => Ending.returned (Value.string x)) ?_
      exact ByteArray.append_assoc
  · have HT : Hid (wordS targetW y E0 = E0) := by
      show wordS targetW y E0 = E0
      by_cases h0 : y = 0
      · subst h0; rfl
      · exact wordS_out (by show y < 0 ∨ (6 : Int) ≤ y; omega) _
    by_cases hy1 : y < 1
    · go_wp2_with fail
      go_ret
      exact ⟨by rw [HT.out, append_E0, HA.out]; rfl, bW.alloc bW.size _⟩
    · have hy5 : 5 < y := by omega
      go_wp2_with fail
      go_ret
      exact ⟨by rw [HT.out, append_E0, HA.out]; rfl, bW.alloc bW.size _⟩

set_option maxHeartbeats 4000000 in
set_option maxRecDepth 100000 in
theorem noteR_neg (w : World) (s1 s2 : ByteArray) (zt : s2.size ≤ 3000) (p a n y : Int) (h0 : -9223372036854775808 ≤ n) (h1 : n ≤ 9223372036854775807) (hp : p < 0) :
    Calls Tryd.prog 18 #[.string s1, .string s2, .agg #[.int .i64 p, .int .i64 a, .int .i64 n, .int .i64 y]] w fun e w' => e = .returned (.string (noteH s2 p a n)) ∧ Below w.heap.size w w' := by
  have hP : partS p = ⟨#[110, 111, 116, 101]⟩ := wordS_out (.inl hp) _
  have HA : Hid (noteH s2 p a n = ((((((⟨#[110, 111, 116, 101]⟩ ++ ⟨#[32]⟩) ++ decB ((lineS s2 a).1 : Int)) ++ ⟨#[58]⟩) ++ decB ((lineS s2 a).2 : Int)) ++ ⟨#[58, 32]⟩) ++ whyS n)) := by
    show noteH s2 p a n = _
    rw [← hP]; rfl
  clear hP
  have hp0 : (p == 0) = false := by rw [beq_eq_false_iff_ne]; omega
  have hp2 : (p == 2) = false := by rw [beq_eq_false_iff_ne]; omega
  obtain ⟨W, hW⟩ : ∃ W, W = (w.alloc (.cells #[.int .i64 p, .int .i64 a, .int .i64 n, .int .i64 y] 40)).alloc (.cells #[.string ⟨#[115, 99, 104, 101, 109, 97]⟩, .string ⟨#[115, 99, 114, 105, 112, 116]⟩, .string ⟨#[102, 108, 111, 119]⟩] 9) := ⟨_, rfl⟩
  have bW : Below w.heap.size w W := by rw [hW]; exact ((Below.refl _ _).alloc (Nat.le_refl _) _).alloc (by simp) _
  have c0 : W.cell? ⟨w.heap.size, 0, none⟩ = some (.int .i64 p) := by rw [hW]; simp [go_sem]
  have c2 : W.cell? ⟨w.heap.size, 2, none⟩ = some (.int .i64 n) := by rw [hW]; simp [go_sem]
  have c1 : W.cell? ⟨w.heap.size, 1, none⟩ = some (.int .i64 a) := by rw [hW]; simp [go_sem]
  have c3 : W.cell? ⟨w.heap.size, 3, none⟩ = some (.int .i64 y) := by rw [hW]; simp [go_sem]
  have hln := lineS_small zt a
  have a1 := line_ref W s2 (by omega) a
  have sw := whyS_size h0 h1
  have kW : Hid (∀ w0, Calls Tryd.prog 20 #[.int .i64 n] w0 fun e w' => e = .returned (.string (whyS n)) ∧ Below w0.heap.size w0 w') := fun w0 => why_ref w0 n h0 h1
  generalize whyS n = YY at *
  generalize lineS s2 a = ab at *
  obtain ⟨l1, l2⟩ := ab
  dsimp only at hln a1 HA
  have d1 : Hid (∀ w0 (x : Nat), x ≤ 3002 → Calls Tryd.prog 33 #[.int .i64 (x : Int)] w0 fun e w' => e = .returned (.string (decB (x : Int))) ∧ Below w0.heap.size w0 w') := fun w0 x hx => dec_any w0 x (by omega) (by omega)
  have e1 : l1 ≤ 3002 := by omega
  have e2 : l2 ≤ 3002 := hln.2
  have z1 := decB_size (n := (l1 : Int)) (by omega) (by omega)
  have z2 := decB_size (n := (l2 : Int)) (by omega) (by omega)
  clear hln h0 h1 zt
  go_enter Tryd.func18, Tryd.ntmps18
  go_wp2_with fail
  rw [← hW]
  clear hW
  refine a1.mono ?_
  rintro e w3 ⟨rfl, b1⟩
  replace c0 := cell_keep c0 b1
  replace c2 := cell_keep c2 b1
  replace c3 := cell_keep c3 b1
  replace bW := btrans bW b1
  clear a1 b1 c1
  go_wp2_with fail
  have k1 : Hid (∀ d os, Calls Tryd.prog 20 #[.int .i64 n] (grow (redrawn w3 d) os) fun e w' => e = .returned (.string YY) ∧ Below (grow (redrawn w3 d) os).heap.size (grow (redrawn w3 d) os) w') := fun d os => kW.out _
  have k2 : Hid (∀ d os (x : Nat), x ≤ 3002 → Calls Tryd.prog 33 #[.int .i64 (x : Int)] (grow (redrawn w3 d) os) fun e w' => e = .returned (.string (decB (x : Int))) ∧ Below (grow (redrawn w3 d) os).heap.size (grow (redrawn w3 d) os) w') := fun d os x hx => d1.out _ x hx
  have g2 : ∀ d os, (grow (redrawn w3 d) os).cell? ⟨w.heap.size, 2, none⟩ = some (.int .i64 n) := fun d os => cell_regrown c2 d os
  clear kW d1
  refine wp_region_quiet_below (by kernel_rfl) (by kernel_rfl) ?_
  repeat (first | go_big_quiet_step (first | (go_at_call 33; exact Calls.regrown_of (k2.out _ _ _ (by assumption))) | (go_at_call 20; exact Calls.regrown_of (k1.out _ _))) | quiet_step (first | (go_at_call 33; exact Calls.regrown_of (k2.out _ _ _ (by assumption))) | (go_at_call 20; exact Calls.regrown_of (k1.out _ _))))
  refine wpQuiet_nil ?_
  rintro _ ⟨⟨dq, osq⟩, rfl⟩
  have hb := below_regrown w3 dq osq
  clear g2 k1 k2
  generalize grow (redrawn w3 dq) osq = w4 at hb ⊢
  replace c0 := cell_keep c0 hb
  replace c3 := cell_keep c3 hb
  replace bW := btrans bW hb
  have ba : Below w4.heap.size w4 (w4.alloc (.cells #[.string ⟨#[]⟩, .string ⟨#[112, 114, 105, 110, 116]⟩, .string ⟨#[99, 111, 108, 117, 109, 110]⟩, .string ⟨#[114, 111, 119, 115]⟩, .string ⟨#[115, 97, 118, 101, 100]⟩, .string ⟨#[105, 110, 112, 117, 116]⟩] 9)) := (Below.refl _ _).alloc (Nat.le_refl _) _
  have c0' := cell_keep c0 ba
  have c3' := cell_keep c3 ba
  clear c2 hb ba
  go_wp2_with fail
  go_ret
  exact ⟨by rw [HA.out]; rfl, bW.alloc bW.size _⟩

set_option maxHeartbeats 4000000 in
set_option maxRecDepth 100000 in
theorem noteR_big (w : World) (s1 s2 : ByteArray) (zt : s2.size ≤ 3000) (p a n y : Int) (h0 : -9223372036854775808 ≤ n) (h1 : n ≤ 9223372036854775807) (hp : 3 ≤ p) :
    Calls Tryd.prog 18 #[.string s1, .string s2, .agg #[.int .i64 p, .int .i64 a, .int .i64 n, .int .i64 y]] w fun e w' => e = .returned (.string (noteH s2 p a n)) ∧ Below w.heap.size w w' := by
  have hP : partS p = ⟨#[110, 111, 116, 101]⟩ := wordS_out (.inr hp) _
  have HA : Hid (noteH s2 p a n = ((((((⟨#[110, 111, 116, 101]⟩ ++ ⟨#[32]⟩) ++ decB ((lineS s2 a).1 : Int)) ++ ⟨#[58]⟩) ++ decB ((lineS s2 a).2 : Int)) ++ ⟨#[58, 32]⟩) ++ whyS n)) := by
    show noteH s2 p a n = _
    rw [← hP]; rfl
  clear hP
  have hp0 : (p == 0) = false := by rw [beq_eq_false_iff_ne]; omega
  have hp2 : (p == 2) = false := by rw [beq_eq_false_iff_ne]; omega
  obtain ⟨W, hW⟩ : ∃ W, W = (w.alloc (.cells #[.int .i64 p, .int .i64 a, .int .i64 n, .int .i64 y] 40)).alloc (.cells #[.string ⟨#[115, 99, 104, 101, 109, 97]⟩, .string ⟨#[115, 99, 114, 105, 112, 116]⟩, .string ⟨#[102, 108, 111, 119]⟩] 9) := ⟨_, rfl⟩
  have bW : Below w.heap.size w W := by rw [hW]; exact ((Below.refl _ _).alloc (Nat.le_refl _) _).alloc (by simp) _
  have c0 : W.cell? ⟨w.heap.size, 0, none⟩ = some (.int .i64 p) := by rw [hW]; simp [go_sem]
  have c2 : W.cell? ⟨w.heap.size, 2, none⟩ = some (.int .i64 n) := by rw [hW]; simp [go_sem]
  have c1 : W.cell? ⟨w.heap.size, 1, none⟩ = some (.int .i64 a) := by rw [hW]; simp [go_sem]
  have c3 : W.cell? ⟨w.heap.size, 3, none⟩ = some (.int .i64 y) := by rw [hW]; simp [go_sem]
  have hln := lineS_small zt a
  have a1 := line_ref W s2 (by omega) a
  have sw := whyS_size h0 h1
  have kW : Hid (∀ w0, Calls Tryd.prog 20 #[.int .i64 n] w0 fun e w' => e = .returned (.string (whyS n)) ∧ Below w0.heap.size w0 w') := fun w0 => why_ref w0 n h0 h1
  generalize whyS n = YY at *
  generalize lineS s2 a = ab at *
  obtain ⟨l1, l2⟩ := ab
  dsimp only at hln a1 HA
  have d1 : Hid (∀ w0 (x : Nat), x ≤ 3002 → Calls Tryd.prog 33 #[.int .i64 (x : Int)] w0 fun e w' => e = .returned (.string (decB (x : Int))) ∧ Below w0.heap.size w0 w') := fun w0 x hx => dec_any w0 x (by omega) (by omega)
  have e1 : l1 ≤ 3002 := by omega
  have e2 : l2 ≤ 3002 := hln.2
  have z1 := decB_size (n := (l1 : Int)) (by omega) (by omega)
  have z2 := decB_size (n := (l2 : Int)) (by omega) (by omega)
  clear hln h0 h1 zt
  go_enter Tryd.func18, Tryd.ntmps18
  go_wp2_with fail
  rw [← hW]
  clear hW
  refine a1.mono ?_
  rintro e w3 ⟨rfl, b1⟩
  replace c0 := cell_keep c0 b1
  replace c2 := cell_keep c2 b1
  replace c3 := cell_keep c3 b1
  replace bW := btrans bW b1
  clear a1 b1 c1
  go_wp2_with fail
  have k1 : Hid (∀ d os, Calls Tryd.prog 20 #[.int .i64 n] (grow (redrawn w3 d) os) fun e w' => e = .returned (.string YY) ∧ Below (grow (redrawn w3 d) os).heap.size (grow (redrawn w3 d) os) w') := fun d os => kW.out _
  have k2 : Hid (∀ d os (x : Nat), x ≤ 3002 → Calls Tryd.prog 33 #[.int .i64 (x : Int)] (grow (redrawn w3 d) os) fun e w' => e = .returned (.string (decB (x : Int))) ∧ Below (grow (redrawn w3 d) os).heap.size (grow (redrawn w3 d) os) w') := fun d os x hx => d1.out _ x hx
  have g2 : ∀ d os, (grow (redrawn w3 d) os).cell? ⟨w.heap.size, 2, none⟩ = some (.int .i64 n) := fun d os => cell_regrown c2 d os
  clear kW d1
  refine wp_region_quiet_below (by kernel_rfl) (by kernel_rfl) ?_
  repeat (first | go_big_quiet_step (first | (go_at_call 33; exact Calls.regrown_of (k2.out _ _ _ (by assumption))) | (go_at_call 20; exact Calls.regrown_of (k1.out _ _))) | quiet_step (first | (go_at_call 33; exact Calls.regrown_of (k2.out _ _ _ (by assumption))) | (go_at_call 20; exact Calls.regrown_of (k1.out _ _))))
  refine wpQuiet_nil ?_
  rintro _ ⟨⟨dq, osq⟩, rfl⟩
  have hb := below_regrown w3 dq osq
  clear g2 k1 k2
  generalize grow (redrawn w3 dq) osq = w4 at hb ⊢
  replace c0 := cell_keep c0 hb
  replace c3 := cell_keep c3 hb
  replace bW := btrans bW hb
  have ba : Below w4.heap.size w4 (w4.alloc (.cells #[.string ⟨#[]⟩, .string ⟨#[112, 114, 105, 110, 116]⟩, .string ⟨#[99, 111, 108, 117, 109, 110]⟩, .string ⟨#[114, 111, 119, 115]⟩, .string ⟨#[115, 97, 118, 101, 100]⟩, .string ⟨#[105, 110, 112, 117, 116]⟩] 9)) := (Below.refl _ _).alloc (Nat.le_refl _) _
  have c0' := cell_keep c0 ba
  have c3' := cell_keep c3 ba
  clear c2 hb ba
  go_wp2_with fail
  go_ret
  exact ⟨by rw [HA.out]; rfl, bW.alloc bW.size _⟩

theorem note_ref (w : World) (s1 s2 : ByteArray) (z1 : s1.size ≤ 3000) (z2 : s2.size ≤ 3000) (p a n y : Int) (h0 : -9223372036854775808 ≤ n) (h1 : n ≤ 9223372036854775807) :
    Calls Tryd.prog 18 #[.string s1, .string s2, .agg #[.int .i64 p, .int .i64 a, .int .i64 n, .int .i64 y]] w fun e w' => e = .returned (.string (noteS s1 s2 p a n y)) ∧ Below w.heap.size w w' := by
  unfold noteS
  by_cases hp : p = 0
  · subst hp
    rw [if_pos rfl, if_neg (by decide), append_E0]
    exact noteR_zero w s1 s2 z1 a n y h0 h1
  rw [if_neg hp]
  by_cases hq : p = 2
  · subst hq
    rw [if_pos rfl]
    exact noteR_two w s1 s2 z2 a n y h0 h1
  rw [if_neg hq, append_E0]
  by_cases hr : p = 1
  · subst hr
    exact noteR_one w s1 s2 z2 a n y h0 h1
  by_cases hs : p < 0
  · exact noteR_neg w s1 s2 z2 p a n y h0 h1 hs
  · exact noteR_big w s1 s2 z2 p a n y h0 h1 (by omega)

end Go.Proofs.YtcnbbmgclphfdaaDoor
