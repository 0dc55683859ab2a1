/- Contracts of the layer's arithmetic at numbers: what Add, Sub, Mul, Div and Mod of two numbers hand back, and why not, each over all 64-bit numbers; nothing that was there has turned. -/
import Derived.Test.YtpmkmemdammiaabBase
import Derived.Test.YtpmkmemdammiaabPlain
namespace Go.Proofs.Ytpmkmemdammiaab
open Go.RowKit Go.Sort

theorem bcell {W w1 : World} (hb : Below W.heap.size W w1) : (∀ b o, b < W.heap.size → w1.cell? ⟨b, o, none⟩ = W.cell? ⟨b, o, none⟩) ∧ (∀ b o, b < W.heap.size → w1.frozen? ⟨b, o, none⟩ = W.frozen? ⟨b, o, none⟩) :=
  ⟨fun b o h => hb.cell (p := ⟨b, o, none⟩) h, fun b o h => hb.frozen (p := ⟨b, o, none⟩) h⟩
theorem btrans {a b c : World} (h : Below a.heap.size a b) (k : Below b.heap.size b c) : Below a.heap.size a c := h.trans (k.mono h.size)
/-- Three stores into a block of the call's own. -/
theorem bset3 {w w1 : World} {b : Nat} (h : Below w.heap.size w w1) (hb : w.heap.size ≤ b) (x y z : Value) : Below w.heap.size w (((w1.setCell ⟨b, 0, none⟩ x).setCell ⟨b, 1, none⟩ y).setCell ⟨b, 2, none⟩ z) :=
  ((h.setCell (p := ⟨b, 0, none⟩) hb x).setCell (p := ⟨b, 1, none⟩) hb y).setCell (p := ⟨b, 2, none⟩) hb z

theorem reckon_ok (x y r : Int) (g : FuncId) (w : World) (hcf : ∀ w, (callFunc g #[.int .i64 x, .int .i64 y]).run Try.prog w = .ok (.enter g #[.int .i64 x, .int .i64 y]) w)
    (hg : ∀ w, Calls Try.prog g #[.int .i64 x, .int .i64 y] w fun e w' => e = .returned (.tuple #[.int .i64 r, .int .i64 0]) ∧ w' = w) :
    Calls Try.prog 25 #[V 2 x E0, V 2 y E0, .func (.func g) #[] #[]] w fun e w' => e = .returned (.tuple #[V 2 r E0, .int .i64 0]) ∧ Below w.heap.size w w' := by
  have f1 : fitsB 2 x E0 2 = true := by simp [fitsB]
  have f2 : fitsB 2 y E0 2 = true := by simp [fitsB]
  have f3 : anyN 2 x E0 2 y E0 = false := by simp [anyN, isNull, veq]
  go_enter Try.func25, Try.ntmps25
  go_wp2_with fail
  refine (fits_any _ _ _ _ _).mono ?_
  rintro e w1 ⟨rfl, b1⟩
  obtain ⟨hc1, hf1⟩ := bcell b1
  rw [f1]
  go_wp2_with fail
  refine (fits_any _ _ _ _ _).mono ?_
  rintro e w2 ⟨rfl, k2⟩
  have b2 := btrans b1 k2
  clear b1 hc1 hf1 k2
  obtain ⟨hc2, hf2⟩ := bcell b2
  rw [f2]
  go_wp2_with fail
  refine (anyNull_any _ _ _ _ _ _ _).mono ?_
  rintro e w3 ⟨rfl, k3⟩
  have b3 := btrans b2 k3
  clear b2 hc2 hf2 k3
  obtain ⟨hc3, hf3⟩ := bcell b3
  rw [f3]
  go_wp2_with fail
  refine (hg _).mono ?_
  rintro e w4 ⟨rfl, rfl⟩
  go_wp2_with fail
  refine (int_any _ _).mono ?_
  rintro e w5 ⟨rfl, k5⟩
  have b5 := btrans b3 k5
  clear b3 hc3 hf3 k5
  obtain ⟨hc5, hf5⟩ := bcell b5
  go_wp2_with fail
  exact bodyPost_ret (v := .tuple #[V 2 r E0, .int .i64 0]) (by simp [results, Try.results25, go_sem, hc5]) rfl ⟨rfl, bset3 (bnew (bnew (bnew b5))) (by omega) _ _ _⟩

theorem reckon_no (x y r : Int) (g : FuncId) (w : World) (er : Int) (her : (er == 0) = false) (hcf : ∀ w, (callFunc g #[.int .i64 x, .int .i64 y]).run Try.prog w = .ok (.enter g #[.int .i64 x, .int .i64 y]) w)
    (hg : ∀ w, Calls Try.prog g #[.int .i64 x, .int .i64 y] w fun e w' => e = .returned (.tuple #[.int .i64 r, .int .i64 er]) ∧ w' = w) :
    Calls Try.prog 25 #[V 2 x E0, V 2 y E0, .func (.func g) #[] #[]] w fun e w' => e = .returned (.tuple #[V 0 0 E0, .int .i64 er]) ∧ Below w.heap.size w w' := by
  have f1 : fitsB 2 x E0 2 = true := by simp [fitsB]
  have f2 : fitsB 2 y E0 2 = true := by simp [fitsB]
  have f3 : anyN 2 x E0 2 y E0 = false := by simp [anyN, isNull, veq]
  go_enter Try.func25, Try.ntmps25
  go_wp2_with fail
  refine (fits_any _ _ _ _ _).mono ?_
  rintro e w1 ⟨rfl, b1⟩
  obtain ⟨hc1, hf1⟩ := bcell b1
  rw [f1]
  go_wp2_with fail
  refine (fits_any _ _ _ _ _).mono ?_
  rintro e w2 ⟨rfl, k2⟩
  have b2 := btrans b1 k2
  clear b1 hc1 hf1 k2
  obtain ⟨hc2, hf2⟩ := bcell b2
  rw [f2]
  go_wp2_with fail
  refine (anyNull_any _ _ _ _ _ _ _).mono ?_
  rintro e w3 ⟨rfl, k3⟩
  have b3 := btrans b2 k3
  clear b2 hc2 hf2 k3
  obtain ⟨hc3, hf3⟩ := bcell b3
  rw [f3]
  go_wp2_with fail
  refine (hg _).mono ?_
  rintro e w4 ⟨rfl, rfl⟩
  go_wp2_with fail
  exact bodyPost_ret (v := .tuple #[V 0 0 E0, .int .i64 er]) (by simp [results, Try.results25, go_sem, hc3]) rfl ⟨rfl, bset3 (bnew (bnew (bnew b3))) (by omega) _ _ _⟩

theorem add_ok1 (x y : Int) (h : inR (x + y)) (w : World) : Calls Try.prog 28 #[.int .i64 x, .int .i64 y] w fun e w' => e = .returned (.tuple #[.int .i64 (x + y), .int .i64 0]) ∧ w' = w := by
  have t := add_test h
  have e := wrap_in h
  rw [e] at t
  clear h
  go_enter Try.func28, Try.ntmps28
  go_wp2
  go_ret2
  exact ⟨by show Ending.returned (.tuple #[.int .i64 (wrap64 (x + y)), .int .i64 0]) = _; rw [e], rfl⟩
theorem add_no1 (x y : Int) (hx : inR x) (hy : inR y) (h : ¬ inR (x + y)) (w : World) : Calls Try.prog 28 #[.int .i64 x, .int .i64 y] w fun e w' => e = .returned (.tuple #[.int .i64 0, .int .i64 4]) ∧ w' = w := by
  have t := add_test' hx hy h
  clear hx hy h
  go_enter Try.func28, Try.ntmps28
  go_wp2
  go_ret2
  exact ⟨rfl, rfl⟩
theorem add_ok (x y : Int) (h : inR (x + y)) (w : World) : Calls Try.prog 19 #[V 2 x E0, V 2 y E0] w fun e w' => e = .returned (.tuple #[V 2 (x + y) E0, .int .i64 0]) ∧ Below w.heap.size w w' := by
  have k1 := add_ok1 x y h
  have k0 := fun w => (reckon_ok x y _ 28 w (fun _ => by kernel_rfl) k1 : Calls Try.prog 25 #[V 2 x E0, V 2 y E0, .func (.func 28) #[] #[]] w _)
  clear k1
  go_enter Try.func19, Try.ntmps19
  go_wp2_with fail
  refine (k0 _).mono ?_
  rintro e w1 ⟨rfl, b1⟩
  obtain ⟨hc1, hf1⟩ := bcell b1
  clear k0
  go_wp2_with fail
  exact bodyPost_ret (v := .tuple #[V 2 (x + y) E0, .int .i64 0]) (by simp [results, Try.results19, go_sem, hc1]) rfl ⟨rfl, bset3 (bnew (bnew (bnew b1))) (by omega) _ _ _⟩
theorem add_no (x y : Int) (hx : inR x) (hy : inR y) (h : ¬ inR (x + y)) (w : World) : Calls Try.prog 19 #[V 2 x E0, V 2 y E0] w fun e w' => e = .returned (.tuple #[V 0 0 E0, .int .i64 4]) ∧ Below w.heap.size w w' := by
  have k1 := add_no1 x y hx hy h
  have k0 := fun w => (reckon_no x y _ 28 w 4 rfl (fun _ => by kernel_rfl) k1 : Calls Try.prog 25 #[V 2 x E0, V 2 y E0, .func (.func 28) #[] #[]] w _)
  clear k1
  go_enter Try.func19, Try.ntmps19
  go_wp2_with fail
  refine (k0 _).mono ?_
  rintro e w1 ⟨rfl, b1⟩
  obtain ⟨hc1, hf1⟩ := bcell b1
  clear k0
  go_wp2_with fail
  exact bodyPost_ret (v := .tuple #[V 0 0 E0, .int .i64 4]) (by simp [results, Try.results19, go_sem, hc1]) rfl ⟨rfl, bset3 (bnew (bnew (bnew b1))) (by omega) _ _ _⟩
theorem div_zero1 (x : Int) (w : World) : Calls Try.prog 26 #[.int .i64 x, .int .i64 0] w fun e w' => e = .returned (.tuple #[.int .i64 0, .int .i64 5]) ∧ w' = w := by
  go_enter Try.func26, Try.ntmps26
  go_wp2
  go_ret2
  exact ⟨rfl, rfl⟩
theorem div_ok1 (x y : Int) (hx : inR x) (hy : y ≠ 0) (hl : ¬ (x = -9223372036854775808 ∧ y = -1)) (w : World) : Calls Try.prog 26 #[.int .i64 x, .int .i64 y] w fun e w' => e = .returned (.tuple #[.int .i64 (x.tdiv y), .int .i64 0]) ∧ w' = w := by
  have t0 : (y == 0) = false := by simp [hy]
  have e' := wrap_in (tdiv_in hx hy hl)
  by_cases hm : x = -9223372036854775808
  · have t1 : (y == -1) = false := by simp; omega
    have t2 : (x == -9223372036854775808) = true := by simp [hm]
    clear hm hl hx
    go_enter Try.func26, Try.ntmps26
    go_wp2
    go_ret2
    exact ⟨by show Ending.returned (.tuple #[.int .i64 (wrap64 (x.tdiv y)), .int .i64 0]) = _; rw [e'], rfl⟩
  · have t2 : (x == -9223372036854775808) = false := by simp [hm]
    clear hm hl hx
    go_enter Try.func26, Try.ntmps26
    go_wp2
    go_ret2
    exact ⟨by show Ending.returned (.tuple #[.int .i64 (wrap64 (x.tdiv y)), .int .i64 0]) = _; rw [e'], rfl⟩
theorem div_low1 (x y : Int) (hm : x = -9223372036854775808) (hn : y = -1) (w : World) : Calls Try.prog 26 #[.int .i64 x, .int .i64 y] w fun e w' => e = .returned (.tuple #[.int .i64 0, .int .i64 4]) ∧ w' = w := by
  have t0 : (y == 0) = false := by simp [hn]
  have t1 : (y == -1) = true := by simp [hn]
  have t2 : (x == -9223372036854775808) = true := by simp [hm]
  clear hm hn
  go_enter Try.func26, Try.ntmps26
  go_wp2
  go_ret2
  exact ⟨rfl, rfl⟩
theorem mod_zero1 (x : Int) (w : World) : Calls Try.prog 27 #[.int .i64 x, .int .i64 0] w fun e w' => e = .returned (.tuple #[.int .i64 0, .int .i64 5]) ∧ w' = w := by
  go_enter Try.func27, Try.ntmps27
  go_wp2
  go_ret2
  exact ⟨rfl, rfl⟩
theorem mod_ok1 (x y : Int) (hy : y ≠ 0) (w : World) : Calls Try.prog 27 #[.int .i64 x, .int .i64 y] w fun e w' => e = .returned (.tuple #[.int .i64 (x.tmod y), .int .i64 0]) ∧ w' = w := by
  have t0 : (y == 0) = false := by simp [hy]
  go_enter Try.func27, Try.ntmps27
  go_wp2
  go_ret2
  exact ⟨rfl, rfl⟩
theorem div_zero (x : Int) (w : World) : Calls Try.prog 16 #[V 2 x E0, V 2 0 E0] w fun e w' => e = .returned (.tuple #[V 0 0 E0, .int .i64 5]) ∧ Below w.heap.size w w' := by
  have k1 := div_zero1 x 
  have k0 := fun w => (reckon_no x 0 _ 26 w 5 rfl (fun _ => by kernel_rfl) k1 : Calls Try.prog 25 #[V 2 x E0, V 2 0 E0, .func (.func 26) #[] #[]] w _)
  clear k1
  go_enter Try.func16, Try.ntmps16
  go_wp2_with fail
  refine (k0 _).mono ?_
  rintro e w1 ⟨rfl, b1⟩
  obtain ⟨hc1, hf1⟩ := bcell b1
  clear k0
  go_wp2_with fail
  exact bodyPost_ret (v := .tuple #[V 0 0 E0, .int .i64 5]) (by simp [results, Try.results16, go_sem, hc1]) rfl ⟨rfl, bset3 (bnew (bnew (bnew b1))) (by omega) _ _ _⟩
theorem div_ok (x y : Int) (hx : inR x) (hy : y ≠ 0) (hl : ¬ (x = -9223372036854775808 ∧ y = -1)) (w : World) : Calls Try.prog 16 #[V 2 x E0, V 2 y E0] w fun e w' => e = .returned (.tuple #[V 2 (x.tdiv y) E0, .int .i64 0]) ∧ Below w.heap.size w w' := by
  have k1 := div_ok1 x y hx hy hl
  have k0 := fun w => (reckon_ok x y _ 26 w (fun _ => by kernel_rfl) k1 : Calls Try.prog 25 #[V 2 x E0, V 2 y E0, .func (.func 26) #[] #[]] w _)
  clear k1
  go_enter Try.func16, Try.ntmps16
  go_wp2_with fail
  refine (k0 _).mono ?_
  rintro e w1 ⟨rfl, b1⟩
  obtain ⟨hc1, hf1⟩ := bcell b1
  clear k0
  go_wp2_with fail
  exact bodyPost_ret (v := .tuple #[V 2 (x.tdiv y) E0, .int .i64 0]) (by simp [results, Try.results16, go_sem, hc1]) rfl ⟨rfl, bset3 (bnew (bnew (bnew b1))) (by omega) _ _ _⟩
theorem div_low (x y : Int) (hm : x = -9223372036854775808) (hn : y = -1) (w : World) : Calls Try.prog 16 #[V 2 x E0, V 2 y E0] w fun e w' => e = .returned (.tuple #[V 0 0 E0, .int .i64 4]) ∧ Below w.heap.size w w' := by
  have k1 := div_low1 x y hm hn
  have k0 := fun w => (reckon_no x y _ 26 w 4 rfl (fun _ => by kernel_rfl) k1 : Calls Try.prog 25 #[V 2 x E0, V 2 y E0, .func (.func 26) #[] #[]] w _)
  clear k1 hm hn
  go_enter Try.func16, Try.ntmps16
  go_wp2_with fail
  refine (k0 _).mono ?_
  rintro e w1 ⟨rfl, b1⟩
  obtain ⟨hc1, hf1⟩ := bcell b1
  clear k0
  go_wp2_with fail
  exact bodyPost_ret (v := .tuple #[V 0 0 E0, .int .i64 4]) (by simp [results, Try.results16, go_sem, hc1]) rfl ⟨rfl, bset3 (bnew (bnew (bnew b1))) (by omega) _ _ _⟩
theorem mod_zero (x : Int) (w : World) : Calls Try.prog 18 #[V 2 x E0, V 2 0 E0] w fun e w' => e = .returned (.tuple #[V 0 0 E0, .int .i64 5]) ∧ Below w.heap.size w w' := by
  have k1 := mod_zero1 x 
  have k0 := fun w => (reckon_no x 0 _ 27 w 5 rfl (fun _ => by kernel_rfl) k1 : Calls Try.prog 25 #[V 2 x E0, V 2 0 E0, .func (.func 27) #[] #[]] w _)
  clear k1
  go_enter Try.func18, Try.ntmps18
  go_wp2_with fail
  refine (k0 _).mono ?_
  rintro e w1 ⟨rfl, b1⟩
  obtain ⟨hc1, hf1⟩ := bcell b1
  clear k0
  go_wp2_with fail
  exact bodyPost_ret (v := .tuple #[V 0 0 E0, .int .i64 5]) (by simp [results, Try.results18, go_sem, hc1]) rfl ⟨rfl, bset3 (bnew (bnew (bnew b1))) (by omega) _ _ _⟩
theorem mod_ok (x y : Int) (hy : y ≠ 0) (w : World) : Calls Try.prog 18 #[V 2 x E0, V 2 y E0] w fun e w' => e = .returned (.tuple #[V 2 (x.tmod y) E0, .int .i64 0]) ∧ Below w.heap.size w w' := by
  have k1 := mod_ok1 x y hy
  have k0 := fun w => (reckon_ok x y _ 27 w (fun _ => by kernel_rfl) k1 : Calls Try.prog 25 #[V 2 x E0, V 2 y E0, .func (.func 27) #[] #[]] w _)
  clear k1
  go_enter Try.func18, Try.ntmps18
  go_wp2_with fail
  refine (k0 _).mono ?_
  rintro e w1 ⟨rfl, b1⟩
  obtain ⟨hc1, hf1⟩ := bcell b1
  clear k0
  go_wp2_with fail
  exact bodyPost_ret (v := .tuple #[V 2 (x.tmod y) E0, .int .i64 0]) (by simp [results, Try.results18, go_sem, hc1]) rfl ⟨rfl, bset3 (bnew (bnew (bnew b1))) (by omega) _ _ _⟩

end Go.Proofs.Ytpmkmemdammiaab
