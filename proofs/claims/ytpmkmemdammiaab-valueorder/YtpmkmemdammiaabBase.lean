/- Contracts of the smallest functions of layer 1 (Null, Bool, Int, Text and the document's twins, fits, anyNull): what each hands back, and that nothing that was there has turned. -/
import Derived.Test.YtpmkmemdammiaabChecked
import Derived.WalkKit
import Derived.WalkLawsBesides
import Derived.Outline
import Derived.Lib.QuietBelow
import Derived.BigQuiet
namespace Go.Proofs.Ytpmkmemdammiaab
open Go.RowKit Go.Sort

/-- A value as the walk writes it. -/
abbrev V (t n : Int) (s : ByteArray) : Value := .agg #[.int .i64 t, .int .i64 n, .string s]
/-- The empty text. -/
abbrev E0 : ByteArray := ⟨#[]⟩
/-- Are two values the same? -/
def veq (t n : Int) (s : ByteArray) (t' n' : Int) (s' : ByteArray) : Bool := t == t' && n == n' && s.toList == s'.toList
/-- Is it null? -/
def isNull (t n : Int) (s : ByteArray) : Bool := veq t n s 0 0 E0

theorem run_veq (t n : Int) (s : ByteArray) (t' n' : Int) (s' : ByteArray) (w : World) :
    (binOp .eql 23 (V t n s) (V t' n' s')).run Try.prog w = .ok (.bool (veq t n s t' n' s')) w := by
  by_cases h1 : t = t' <;> by_cases h2 : n = n' <;> by_cases h3 : s.toList = s'.toList <;> simp [go_sem, veq, h1, h2, h3]

theorem run_vne (t n : Int) (s : ByteArray) (t' n' : Int) (s' : ByteArray) (w : World) :
    (binOp .neq 23 (V t n s) (V t' n' s')).run Try.prog w = .ok (.bool (!veq t n s t' n' s')) w := by
  by_cases h1 : t = t' <;> by_cases h2 : n = n' <;> by_cases h3 : s.toList = s'.toList <;> simp [go_sem, veq, h1, h2, h3]

theorem null_any (w : World) :
    Calls Try.prog 14 #[] w fun e w' => e = .returned (V 0 0 E0) ∧ Below w.heap.size w w' := by
  go_enter Try.func14, Try.ntmps14
  go_wp2
  exact bodyPost_ret (v := V 0 0 E0) (by simp [results, Try.results14, go_sem]) rfl ⟨rfl, (Below.refl _ _).alloc (Nat.le_refl _) _⟩

theorem int_any (n : Int) (w : World) :
    Calls Try.prog 17 #[.int .i64 n] w fun e w' => e = .returned (V 2 n E0) ∧ Below w.heap.size w w' := by
  go_enter Try.func17, Try.ntmps17
  go_wp2
  exact bodyPost_ret (v := V 2 n E0) (by simp [results, Try.results17, go_sem]) rfl ⟨rfl, (Below.refl _ _).alloc (Nat.le_refl _) _⟩

theorem refInt_any (n : Int) (w : World) :
    Calls Try.prog 20 #[.int .i64 n] w fun e w' => e = .returned (V 2 n E0) ∧ Below w.heap.size w w' := by
  go_enter Try.func20, Try.ntmps20
  go_wp2
  exact bodyPost_ret (v := V 2 n E0) (by simp [results, Try.results20, go_sem]) rfl ⟨rfl, (Below.refl _ _).alloc (Nat.le_refl _) _⟩

/-- 1 of true, 0 of false. -/
def oneOf (b : Bool) : Int := if b then 1 else 0

theorem bool_any (b : Bool) (w : World) :
    Calls Try.prog 15 #[.bool b] w fun e w' => e = .returned (V 1 (oneOf b) E0) ∧ Below w.heap.size w w' := by
  cases b
  · go_enter Try.func15, Try.ntmps15
    go_wp2
    exact bodyPost_ret (v := V 1 0 E0) (by simp [results, Try.results15, go_sem]) rfl ⟨rfl, ((Below.refl _ _).alloc (Nat.le_refl _) _).alloc (by simp) _⟩
  · go_enter Try.func15, Try.ntmps15
    go_wp2
    exact bodyPost_ret (v := V 1 1 E0) (by simp [results, Try.results15, go_sem]) rfl ⟨rfl, ((Below.refl _ _).alloc (Nat.le_refl _) _).alloc (by simp) _⟩

theorem refBool_any (b : Bool) (w : World) :
    Calls Try.prog 6 #[.bool b] w fun e w' => e = .returned (V 1 (oneOf b) E0) ∧ Below w.heap.size w w' := by
  cases b
  · go_enter Try.func6, Try.ntmps6
    go_wp2
    exact bodyPost_ret (v := V 1 0 E0) (by simp [results, Try.results6, go_sem]) rfl ⟨rfl, (Below.refl _ _).alloc (Nat.le_refl _) _⟩
  · go_enter Try.func6, Try.ntmps6
    go_wp2
    exact bodyPost_ret (v := V 1 1 E0) (by simp [results, Try.results6, go_sem]) rfl ⟨rfl, (Below.refl _ _).alloc (Nat.le_refl _) _⟩

/-- Null, or of the type k? -/
def fitsB (t n : Int) (s : ByteArray) (k : Int) : Bool := isNull t n s || t == k

/-- The three cells of a value in memory, in every world of the class. -/
theorem cells3 {w : World} {b : Nat} {t n : Int} {s : ByteArray} (h0 : w.cell? ⟨b, 0, none⟩ = some (.int .i64 t)) (h1 : w.cell? ⟨b, 1, none⟩ = some (.int .i64 n)) (h2 : w.cell? ⟨b, 2, none⟩ = some (.string s)) (d : Nat) (os : Array Obj) :
    (grow (redrawn w d) os).cell? ⟨b, 0, none⟩ = some (.int .i64 t) ∧ (grow (redrawn w d) os).cell? ⟨b, 1, none⟩ = some (.int .i64 n) ∧ (grow (redrawn w d) os).cell? ⟨b, 2, none⟩ = some (.string s) :=
  ⟨cell_regrown h0 d os, cell_regrown h1 d os, cell_regrown h2 d os⟩

/-- One new block, and then whatever grows behind it. -/
theorem bnew {w w1 : World} {o : Obj} (h : Below (w.alloc o).heap.size (w.alloc o) w1) : Below w.heap.size w w1 :=
  ((Below.refl _ _).alloc (Nat.le_refl _) o).trans (h.mono (by simp))

theorem fits_any (t n k : Int) (s : ByteArray) (w : World) :
    Calls Try.prog 29 #[V t n s, .int .i64 k] w fun e w' => e = .returned (.bool (fitsB t n s k)) ∧ Below w.heap.size w w' := by
  have hv := run_veq
  have c := cells3 (w := w.alloc (.cells #[.int .i64 t, .int .i64 n, .string s] 23)) (b := w.heap.size) (t := t) (n := n) (s := s) (by simp [go_sem]) (by simp [go_sem]) (by simp [go_sem])
  cases hn : veq t n s 0 0 E0
  · go_enter Try.func29, Try.ntmps29
    go_wp2
    refine wp_region_quiet_below (by kernel_rfl) (by kernel_rfl) ?_
    repeat (quiet_step (exact Calls.regrown_of (null_any _)))
    refine wpQuiet_nil ?_
    rintro _ ⟨⟨dq, osq⟩, rfl⟩
    have hb := below_regrown (w.alloc (.cells #[.int .i64 t, .int .i64 n, .string s] 23)) dq osq
    clear c hv
    generalize grow (redrawn (w.alloc (.cells #[.int .i64 t, .int .i64 n, .string s] 23)) dq) osq = w1 at hb ⊢
    go_wp2
    go_ret
    exact ⟨by simp [fitsB, isNull, hn], bnew hb⟩
  · go_enter Try.func29, Try.ntmps29
    go_wp2
    refine wp_region_quiet_below (by kernel_rfl) (by kernel_rfl) ?_
    repeat (quiet_step (exact Calls.regrown_of (null_any _)))
    refine wpQuiet_nil ?_
    rintro _ ⟨⟨dq, osq⟩, rfl⟩
    have hb := below_regrown (w.alloc (.cells #[.int .i64 t, .int .i64 n, .string s] 23)) dq osq
    clear c hv
    generalize grow (redrawn (w.alloc (.cells #[.int .i64 t, .int .i64 n, .string s] 23)) dq) osq = w1 at hb ⊢
    go_wp2
    go_ret
    exact ⟨by simp [fitsB, isNull, hn], bnew hb⟩

/-- Is one of two null? -/
def anyN (t n : Int) (s : ByteArray) (t' n' : Int) (s' : ByteArray) : Bool := isNull t n s || isNull t' n' s'

theorem anyNull_any (t n : Int) (s : ByteArray) (t' n' : Int) (s' : ByteArray) (w : World) :
    Calls Try.prog 23 #[V t n s, V t' n' s'] w fun e w' => e = .returned (.bool (anyN t n s t' n' s')) ∧ Below w.heap.size w w' := by
  have hv := run_veq
  have c := cells3 (w := (w.alloc (.cells #[.int .i64 t, .int .i64 n, .string s] 23)).alloc (.cells #[.int .i64 t', .int .i64 n', .string s'] 23)) (b := w.heap.size) (t := t) (n := n) (s := s) (by simp [go_sem]) (by simp [go_sem]) (by simp [go_sem])
  have c' := cells3 (w := (w.alloc (.cells #[.int .i64 t, .int .i64 n, .string s] 23)).alloc (.cells #[.int .i64 t', .int .i64 n', .string s'] 23)) (b := w.heap.size + 1) (t := t') (n := n') (s := s') (by simp [go_sem]) (by simp [go_sem]) (by simp [go_sem])
  cases hn : veq t n s 0 0 E0
  all_goals
    go_enter Try.func23, Try.ntmps23
    go_wp2
    refine wp_region_quiet_below (by kernel_rfl) (by kernel_rfl) ?_
    repeat (quiet_step (exact Calls.regrown_of (null_any _)))
    refine wpQuiet_nil ?_
    rintro _ ⟨⟨dq, osq⟩, rfl⟩
    have hb := below_regrown ((w.alloc (.cells #[.int .i64 t, .int .i64 n, .string s] 23)).alloc (.cells #[.int .i64 t', .int .i64 n', .string s'] 23)) dq osq
    clear c c' hv
    generalize grow (redrawn ((w.alloc (.cells #[.int .i64 t, .int .i64 n, .string s] 23)).alloc (.cells #[.int .i64 t', .int .i64 n', .string s'] 23)) dq) osq = w1 at hb ⊢
    go_wp2
    go_ret
    exact ⟨by simp [anyN, isNull, hn], bnew (bnew hb)⟩

end Go.Proofs.Ytpmkmemdammiaab
