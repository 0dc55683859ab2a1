/- Contracts of the layer's logic at any two values: what And, Or and Not hand back, and why not; nothing that was there has turned. -/
import Derived.Test.YtpmkmemdammiaabNum
import Derived.Deep.RegionWith
namespace Go.Proofs.Ytpmkmemdammiaab
open Go.RowKit Go.Sort

theorem dec_t1 (t n : Int) (s : ByteArray) (t' n' : Int) (s' : ByteArray) (wins : Bool) (f1 : fitsB t n s 1 = false) (w : World) :
    Calls Try.prog 24 #[V t n s, V t' n' s', .bool wins] w fun e w' => e = .returned (.tuple #[V 0 0 E0, .int .i64 3]) ∧ Below w.heap.size w w' := by
  go_enter Try.func24, Try.ntmps24
  go_wp2_with fail
  refine (fits_any _ _ _ _ _).mono ?_
  rintro e w1 ⟨rfl, k1⟩
  have b1 := k1
  clear k1
  obtain ⟨hc1, hf1⟩ := bcell b1
  rw [f1]
  go_wp2_with fail
  exact bodyPost_ret (v := .tuple #[V 0 0 E0, .int .i64 3]) (by simp [results, Try.results24, go_sem, hc1]) rfl ⟨rfl, bset3 (bnew (bnew (bnew b1))) (by omega) _ _ _⟩

theorem dec_t2 (t n : Int) (s : ByteArray) (t' n' : Int) (s' : ByteArray) (wins : Bool) (f1 : fitsB t n s 1 = true) (f2 : fitsB t' n' s' 1 = false) (w : World) :
    Calls Try.prog 24 #[V t n s, V t' n' s', .bool wins] w fun e w' => e = .returned (.tuple #[V 0 0 E0, .int .i64 3]) ∧ Below w.heap.size w w' := by
  go_enter Try.func24, Try.ntmps24
  go_wp2_with fail
  refine (fits_any _ _ _ _ _).mono ?_
  rintro e w1 ⟨rfl, k1⟩
  have b1 := k1
  clear k1
  obtain ⟨hc1, hf1⟩ := bcell b1
  rw [f1]
  go_wp2_with fail
  refine (fits_any _ _ _ _ _).mono ?_
  rintro e w2 ⟨rfl, k2⟩
  have b2 := btrans b1 k2
  clear b1 hc1 hf1 k2
  obtain ⟨hc2, hf2⟩ := bcell b2
  rw [f2]
  go_wp2_with fail
  exact bodyPost_ret (v := .tuple #[V 0 0 E0, .int .i64 3]) (by simp [results, Try.results24, go_sem, hc2]) rfl ⟨rfl, bset3 (bnew (bnew (bnew b2))) (by omega) _ _ _⟩

theorem dec_w1 (t n : Int) (s : ByteArray) (t' n' : Int) (s' : ByteArray) (wins : Bool) (f1 : fitsB t n s 1 = true) (f2 : fitsB t' n' s' 1 = true) (e1 : veq t n s 1 (oneOf wins) E0 = true) (w : World) :
    Calls Try.prog 24 #[V t n s, V t' n' s', .bool wins] w fun e w' => e = .returned (.tuple #[V 1 (oneOf wins) E0, .int .i64 0]) ∧ Below w.heap.size w w' := by
  go_enter Try.func24, Try.ntmps24
  go_wp2_with fail
  refine (fits_any _ _ _ _ _).mono ?_
  rintro e w1 ⟨rfl, k1⟩
  have b1 := k1
  clear k1
  obtain ⟨hc1, hf1⟩ := bcell b1
  rw [f1]
  go_wp2_with fail
  refine (fits_any _ _ _ _ _).mono ?_
  rintro e w2 ⟨rfl, k2⟩
  have b2 := btrans b1 k2
  clear b1 hc1 hf1 k2
  obtain ⟨hc2, hf2⟩ := bcell b2
  rw [f2]
  go_wp2_with fail
  have c := cells3 (w := w2) (b := w.heap.size) (t := t) (n := n) (s := s) (by simp [go_sem, hc2]) (by simp [go_sem, hc2]) (by simp [go_sem, hc2])
  have c' := cells3 (w := w2) (b := w.heap.size + 1) (t := t') (n := n') (s := s') (by simp [go_sem, hc2]) (by simp [go_sem, hc2]) (by simp [go_sem, hc2])
  have hv := run_veq
  clear hc2 hf2
  refine wp_region_quiet_below (by kernel_rfl) (by kernel_rfl) ?_
  repeat (quiet_step (exact Calls.regrown_of (bool_any _ _)))
  refine wpQuiet_nil ?_
  rintro _ ⟨⟨dq, osq⟩, rfl⟩
  have k3 := below_regrown w2 dq osq
  clear c c' hv
  generalize grow (redrawn w2 dq) osq = w3 at k3 ⊢
  have b3 := btrans b2 k3
  clear b2 k3
  obtain ⟨hc3, hf3⟩ := bcell b3
  go_wp2_with fail
  refine (bool_any _ _).mono ?_
  rintro e w4 ⟨rfl, k4⟩
  have b4 := btrans b3 k4
  clear b3 hc3 hf3 k4
  obtain ⟨hc4, hf4⟩ := bcell b4
  go_wp2_with fail
  exact bodyPost_ret (v := .tuple #[V 1 (oneOf wins) E0, .int .i64 0]) (by simp [results, Try.results24, go_sem, hc4]) rfl ⟨rfl, bset3 (bnew (bnew (bnew b4))) (by omega) _ _ _⟩

theorem dec_w2 (t n : Int) (s : ByteArray) (t' n' : Int) (s' : ByteArray) (wins : Bool) (f1 : fitsB t n s 1 = true) (f2 : fitsB t' n' s' 1 = true) (e1 : veq t n s 1 (oneOf wins) E0 = false) (e2 : veq t' n' s' 1 (oneOf wins) E0 = true) (w : World) :
    Calls Try.prog 24 #[V t n s, V t' n' s', .bool wins] w fun e w' => e = .returned (.tuple #[V 1 (oneOf wins) E0, .int .i64 0]) ∧ Below w.heap.size w w' := by
  go_enter Try.func24, Try.ntmps24
  go_wp2_with fail
  refine (fits_any _ _ _ _ _).mono ?_
  rintro e w1 ⟨rfl, k1⟩
  have b1 := k1
  clear k1
  obtain ⟨hc1, hf1⟩ := bcell b1
  rw [f1]
  go_wp2_with fail
  refine (fits_any _ _ _ _ _).mono ?_
  rintro e w2 ⟨rfl, k2⟩
  have b2 := btrans b1 k2
  clear b1 hc1 hf1 k2
  obtain ⟨hc2, hf2⟩ := bcell b2
  rw [f2]
  go_wp2_with fail
  have c := cells3 (w := w2) (b := w.heap.size) (t := t) (n := n) (s := s) (by simp [go_sem, hc2]) (by simp [go_sem, hc2]) (by simp [go_sem, hc2])
  have c' := cells3 (w := w2) (b := w.heap.size + 1) (t := t') (n := n') (s := s') (by simp [go_sem, hc2]) (by simp [go_sem, hc2]) (by simp [go_sem, hc2])
  have hv := run_veq
  clear hc2 hf2
  refine wp_region_quiet_below (by kernel_rfl) (by kernel_rfl) ?_
  repeat (quiet_step (exact Calls.regrown_of (bool_any _ _)))
  refine wpQuiet_nil ?_
  rintro _ ⟨⟨dq, osq⟩, rfl⟩
  have k3 := below_regrown w2 dq osq
  clear c c' hv
  generalize grow (redrawn w2 dq) osq = w3 at k3 ⊢
  have b3 := btrans b2 k3
  clear b2 k3
  obtain ⟨hc3, hf3⟩ := bcell b3
  go_wp2_with fail
  refine (bool_any _ _).mono ?_
  rintro e w4 ⟨rfl, k4⟩
  have b4 := btrans b3 k4
  clear b3 hc3 hf3 k4
  obtain ⟨hc4, hf4⟩ := bcell b4
  go_wp2_with fail
  exact bodyPost_ret (v := .tuple #[V 1 (oneOf wins) E0, .int .i64 0]) (by simp [results, Try.results24, go_sem, hc4]) rfl ⟨rfl, bset3 (bnew (bnew (bnew b4))) (by omega) _ _ _⟩

theorem dec_n (t n : Int) (s : ByteArray) (t' n' : Int) (s' : ByteArray) (wins : Bool) (f1 : fitsB t n s 1 = true) (f2 : fitsB t' n' s' 1 = true) (e1 : veq t n s 1 (oneOf wins) E0 = false) (e2 : veq t' n' s' 1 (oneOf wins) E0 = false) (an : anyN t n s t' n' s' = true) (w : World) :
    Calls Try.prog 24 #[V t n s, V t' n' s', .bool wins] w fun e w' => e = .returned (.tuple #[V 0 0 E0, .int .i64 0]) ∧ Below w.heap.size w w' := by
  go_enter Try.func24, Try.ntmps24
  go_wp2_with fail
  refine (fits_any _ _ _ _ _).mono ?_
  rintro e w1 ⟨rfl, k1⟩
  have b1 := k1
  clear k1
  obtain ⟨hc1, hf1⟩ := bcell b1
  rw [f1]
  go_wp2_with fail
  refine (fits_any _ _ _ _ _).mono ?_
  rintro e w2 ⟨rfl, k2⟩
  have b2 := btrans b1 k2
  clear b1 hc1 hf1 k2
  obtain ⟨hc2, hf2⟩ := bcell b2
  rw [f2]
  go_wp2_with fail
  have c := cells3 (w := w2) (b := w.heap.size) (t := t) (n := n) (s := s) (by simp [go_sem, hc2]) (by simp [go_sem, hc2]) (by simp [go_sem, hc2])
  have c' := cells3 (w := w2) (b := w.heap.size + 1) (t := t') (n := n') (s := s') (by simp [go_sem, hc2]) (by simp [go_sem, hc2]) (by simp [go_sem, hc2])
  have hv := run_veq
  clear hc2 hf2
  refine wp_region_quiet_below (by kernel_rfl) (by kernel_rfl) ?_
  repeat (quiet_step (exact Calls.regrown_of (bool_any _ _)))
  refine wpQuiet_nil ?_
  rintro _ ⟨⟨dq, osq⟩, rfl⟩
  have k3 := below_regrown w2 dq osq
  clear c c' hv
  generalize grow (redrawn w2 dq) osq = w3 at k3 ⊢
  have b3 := btrans b2 k3
  clear b2 k3
  obtain ⟨hc3, hf3⟩ := bcell b3
  go_wp2_with fail
  refine (anyNull_any _ _ _ _ _ _ _).mono ?_
  rintro e w4 ⟨rfl, k4⟩
  have b4 := btrans b3 k4
  clear b3 hc3 hf3 k4
  obtain ⟨hc4, hf4⟩ := bcell b4
  rw [an]
  go_wp2_with fail
  refine (null_any _).mono ?_
  rintro e w5 ⟨rfl, k5⟩
  have b5 := btrans b4 k5
  clear b4 hc4 hf4 k5
  obtain ⟨hc5, hf5⟩ := bcell b5
  go_wp2_with fail
  exact bodyPost_ret (v := .tuple #[V 0 0 E0, .int .i64 0]) (by simp [results, Try.results24, go_sem, hc5]) rfl ⟨rfl, bset3 (bnew (bnew (bnew b5))) (by omega) _ _ _⟩

theorem dec_o (t n : Int) (s : ByteArray) (t' n' : Int) (s' : ByteArray) (wins : Bool) (f1 : fitsB t n s 1 = true) (f2 : fitsB t' n' s' 1 = true) (e1 : veq t n s 1 (oneOf wins) E0 = false) (e2 : veq t' n' s' 1 (oneOf wins) E0 = false) (an : anyN t n s t' n' s' = false) (w : World) :
    Calls Try.prog 24 #[V t n s, V t' n' s', .bool wins] w fun e w' => e = .returned (.tuple #[V 1 (oneOf (!wins)) E0, .int .i64 0]) ∧ Below w.heap.size w w' := by
  go_enter Try.func24, Try.ntmps24
  go_wp2_with fail
  refine (fits_any _ _ _ _ _).mono ?_
  rintro e w1 ⟨rfl, k1⟩
  have b1 := k1
  clear k1
  obtain ⟨hc1, hf1⟩ := bcell b1
  rw [f1]
  go_wp2_with fail
  refine (fits_any _ _ _ _ _).mono ?_
  rintro e w2 ⟨rfl, k2⟩
  have b2 := btrans b1 k2
  clear b1 hc1 hf1 k2
  obtain ⟨hc2, hf2⟩ := bcell b2
  rw [f2]
  go_wp2_with fail
  have c := cells3 (w := w2) (b := w.heap.size) (t := t) (n := n) (s := s) (by simp [go_sem, hc2]) (by simp [go_sem, hc2]) (by simp [go_sem, hc2])
  have c' := cells3 (w := w2) (b := w.heap.size + 1) (t := t') (n := n') (s := s') (by simp [go_sem, hc2]) (by simp [go_sem, hc2]) (by simp [go_sem, hc2])
  have hv := run_veq
  clear hc2 hf2
  refine wp_region_quiet_below (by kernel_rfl) (by kernel_rfl) ?_
  repeat (quiet_step (exact Calls.regrown_of (bool_any _ _)))
  refine wpQuiet_nil ?_
  rintro _ ⟨⟨dq, osq⟩, rfl⟩
  have k3 := below_regrown w2 dq osq
  clear c c' hv
  generalize grow (redrawn w2 dq) osq = w3 at k3 ⊢
  have b3 := btrans b2 k3
  clear b2 k3
  obtain ⟨hc3, hf3⟩ := bcell b3
  go_wp2_with fail
  refine (anyNull_any _ _ _ _ _ _ _).mono ?_
  rintro e w4 ⟨rfl, k4⟩
  have b4 := btrans b3 k4
  clear b3 hc3 hf3 k4
  obtain ⟨hc4, hf4⟩ := bcell b4
  rw [an]
  go_wp2_with fail
  refine (bool_any _ _).mono ?_
  rintro e w5 ⟨rfl, k5⟩
  have b5 := btrans b4 k5
  clear b4 hc4 hf4 k5
  obtain ⟨hc5, hf5⟩ := bcell b5
  go_wp2_with fail
  exact bodyPost_ret (v := .tuple #[V 1 (oneOf (!wins)) E0, .int .i64 0]) (by simp [results, Try.results24, go_sem, hc5]) rfl ⟨rfl, bset3 (bnew (bnew (bnew b5))) (by omega) _ _ _⟩

/-- What and (wins: false) and or (wins: true) hand back: the value, and the error's number. -/
def decV (wins : Bool) (t n : Int) (s : ByteArray) (t' n' : Int) (s' : ByteArray) : Value :=
  if (!fitsB t n s 1 || !fitsB t' n' s' 1) = true then V 0 0 E0 else if (veq t n s 1 (oneOf wins) E0 || veq t' n' s' 1 (oneOf wins) E0) = true then V 1 (oneOf wins) E0 else if anyN t n s t' n' s' = true then V 0 0 E0 else V 1 (oneOf (!wins)) E0
def decE (t n : Int) (s : ByteArray) (t' n' : Int) (s' : ByteArray) : Int := if (!fitsB t n s 1 || !fitsB t' n' s' 1) = true then 3 else 0

theorem dec_any (t n : Int) (s : ByteArray) (t' n' : Int) (s' : ByteArray) (wins : Bool) (w : World) :
    Calls Try.prog 24 #[V t n s, V t' n' s', .bool wins] w fun e w' => e = .returned (.tuple #[decV wins t n s t' n' s', .int .i64 (decE t n s t' n' s')]) ∧ Below w.heap.size w w' := by
  unfold decV decE
  cases f1 : fitsB t n s 1
  · simpa using dec_t1 t n s t' n' s' wins f1 w
  cases f2 : fitsB t' n' s' 1
  · simpa using dec_t2 t n s t' n' s' wins f1 f2 w
  cases e1 : veq t n s 1 (oneOf wins) E0
  · cases e2 : veq t' n' s' 1 (oneOf wins) E0
    · cases an : anyN t n s t' n' s'
      · simpa using dec_o t n s t' n' s' wins f1 f2 e1 e2 an w
      · simpa using dec_n t n s t' n' s' wins f1 f2 e1 e2 an w
    · simpa using dec_w2 t n s t' n' s' wins f1 f2 e1 e2 w
  · simpa using dec_w1 t n s t' n' s' wins f1 f2 e1 w

/-- A value's three parts. -/
structure Parts where
  t : Int
  n : Int
  s : ByteArray
/-- What and and or hand back, as parts. -/
def decP (wins : Bool) (t n : Int) (s : ByteArray) (t' n' : Int) (s' : ByteArray) : Parts :=
  if (!fitsB t n s 1 || !fitsB t' n' s' 1) = true then ⟨0, 0, E0⟩ else if (veq t n s 1 (oneOf wins) E0 || veq t' n' s' 1 (oneOf wins) E0) = true then ⟨1, oneOf wins, E0⟩ else if anyN t n s t' n' s' = true then ⟨0, 0, E0⟩ else ⟨1, oneOf (!wins), E0⟩
theorem decV_parts (wins : Bool) (t n : Int) (s : ByteArray) (t' n' : Int) (s' : ByteArray) : decV wins t n s t' n' s' = V (decP wins t n s t' n' s').t (decP wins t n s t' n' s').n (decP wins t n s t' n' s').s := by
  unfold decV decP; split <;> (try split) <;> (try split) <;> rfl
theorem and_any (t n : Int) (s : ByteArray) (t' n' : Int) (s' : ByteArray) (w : World) :
    Calls Try.prog 13 #[V t n s, V t' n' s'] w fun e w' => e = .returned (.tuple #[decV false t n s t' n' s', .int .i64 (decE t n s t' n' s')]) ∧ Below w.heap.size w w' := by
  have k0 := dec_any t n s t' n' s' false
  rw [decV_parts] at k0 ⊢
  generalize decP false t n s t' n' s' = p at k0 ⊢
  generalize decE t n s t' n' s' = er at k0 ⊢
  have K : Hid _ := k0
  clear k0
  go_enter Try.func13, Try.ntmps13
  go_wp2_with fail
  refine (K.out _).mono ?_
  clear K
  rintro e w1 ⟨rfl, b1⟩
  obtain ⟨hc1, hf1⟩ := bcell b1
  go_wp2_with fail
  exact bodyPost_ret (v := .tuple #[V p.t p.n p.s, .int .i64 er]) (by simp [results, Try.results13, go_sem, hc1]) rfl ⟨rfl, bset3 (bnew (bnew (bnew b1))) (by omega) _ _ _⟩
/-- What not hands back. -/
def notP (t n : Int) (s : ByteArray) : Parts := if fitsB t n s 1 = false then ⟨0, 0, E0⟩ else if veq t n s 0 0 E0 = true then ⟨0, 0, E0⟩ else ⟨1, oneOf (veq t n s 1 0 E0), E0⟩
def notE (t n : Int) (s : ByteArray) : Int := if fitsB t n s 1 = false then 3 else 0
/-- A value lies in a block. -/
def At (w : World) (b : Nat) (t n : Int) (s : ByteArray) : Prop :=
  w.cell? ⟨b, 0, none⟩ = some (.int .i64 t) ∧ w.cell? ⟨b, 1, none⟩ = some (.int .i64 n) ∧ w.cell? ⟨b, 2, none⟩ = some (.string s)
theorem At.keep {w w' : World} {b : Nat} {t n : Int} {s : ByteArray} (h : At w b t n s) (k : Below w.heap.size w w') : At w' b t n s :=
  ⟨(k.cell (block_lt_of_cell h.1)).trans h.1, (k.cell (block_lt_of_cell h.2.1)).trans h.2.1, (k.cell (block_lt_of_cell h.2.2)).trans h.2.2⟩
theorem At.drew {w : World} {b : Nat} {t n : Int} {s : ByteArray} (h : At w b t n s) : At w.drew b t n s := h
theorem At.alloc (w : World) (t n : Int) (s : ByteArray) : At (w.alloc (.cells #[.int .i64 t, .int .i64 n, .string s] 23)) w.heap.size t n s :=
  ⟨by simp [go_sem], by simp [go_sem], by simp [go_sem]⟩
theorem At.cells {w : World} {b : Nat} {t n : Int} {s : ByteArray} (h : At w b t n s) (d : Nat) (os : Array Obj) :
    (grow (redrawn w d) os).cell? ⟨b, 0, none⟩ = some (.int .i64 t) ∧ (grow (redrawn w d) os).cell? ⟨b, 1, none⟩ = some (.int .i64 n) ∧ (grow (redrawn w d) os).cell? ⟨b, 2, none⟩ = some (.string s) := cells3 h.1 h.2.1 h.2.2 d os

end Go.Proofs.Ytpmkmemdammiaab
