/- Contracts of the smallest functions of layer 1 (Null, Bool, Int, Text and the document's twins, fits, anyNull): what each hands back, and that nothing that was there has turned. -/
import Derived.Test.YtcnbbmgclphfdaaDoorChecked
import Derived.WalkKit
import Derived.WalkLawsBesides
import Derived.Outline
import Derived.Lib.QuietBelow
import Derived.BigQuiet
namespace Go.Proofs.YtcnbbmgclphfdaaDoor
open Go.RowKit Go.Sort

/-- A value as the walk writes it. -/
abbrev V (t n : Int) (s : ByteArray) : Value := .agg #[.int .i64 t, .int .i64 n, .string s]
/-- The empty text. -/
abbrev E0 : ByteArray := ⟨#[]⟩
/-- Are two values the same? -/
def veq (t n : Int) (s : ByteArray) (t' n' : Int) (s' : ByteArray) : Bool := t == t' && n == n' && s.toList == s'.toList
/-- Is it null? -/
def isNull (t n : Int) (s : ByteArray) : Bool := veq t n s 0 0 E0

theorem run_veq (t n : Int) (s : ByteArray) (t' n' : Int) (s' : ByteArray) (w : World) :
    (binOp .eql 28 (V t n s) (V t' n' s')).run Tryd.prog w = .ok (.bool (veq t n s t' n' s')) w := by
  by_cases h1 : t = t' <;> by_cases h2 : n = n' <;> by_cases h3 : s.toList = s'.toList <;> simp [go_sem, veq, h1, h2, h3]

theorem run_vne (t n : Int) (s : ByteArray) (t' n' : Int) (s' : ByteArray) (w : World) :
    (binOp .neq 28 (V t n s) (V t' n' s')).run Tryd.prog w = .ok (.bool (!veq t n s t' n' s')) w := by
  by_cases h1 : t = t' <;> by_cases h2 : n = n' <;> by_cases h3 : s.toList = s'.toList <;> simp [go_sem, veq, h1, h2, h3]

theorem null_any (w : World) :
    Calls Tryd.prog 78 #[] w fun e w' => e = .returned (V 0 0 E0) ∧ Below w.heap.size w w' := by
  go_enter Tryd.func78, Tryd.ntmps78
  go_wp2
  exact bodyPost_ret (v := V 0 0 E0) (by simp [results, Tryd.results78, go_sem]) rfl ⟨rfl, (Below.refl _ _).alloc (Nat.le_refl _) _⟩

theorem int_any (n : Int) (w : World) :
    Calls Tryd.prog 80 #[.int .i64 n] w fun e w' => e = .returned (V 2 n E0) ∧ Below w.heap.size w w' := by
  go_enter Tryd.func80, Tryd.ntmps80
  go_wp2
  exact bodyPost_ret (v := V 2 n E0) (by simp [results, Tryd.results80, go_sem]) rfl ⟨rfl, (Below.refl _ _).alloc (Nat.le_refl _) _⟩

theorem refInt_any (n : Int) (w : World) :
    Calls Tryd.prog 25 #[.int .i64 n] w fun e w' => e = .returned (V 2 n E0) ∧ Below w.heap.size w w' := by
  go_enter Tryd.func25, Tryd.ntmps25
  go_wp2
  exact bodyPost_ret (v := V 2 n E0) (by simp [results, Tryd.results25, go_sem]) rfl ⟨rfl, (Below.refl _ _).alloc (Nat.le_refl _) _⟩

theorem text_any (s : ByteArray) (w : World) :
    Calls Tryd.prog 77 #[.string s] w fun e w' => e = .returned (V 3 0 s) ∧ Below w.heap.size w w' := by
  go_enter Tryd.func77, Tryd.ntmps77
  go_wp2
  exact bodyPost_ret (v := V 3 0 s) (by simp [results, Tryd.results77, go_sem]) rfl ⟨rfl, (Below.refl _ _).alloc (Nat.le_refl _) _⟩

theorem refText_any (s : ByteArray) (w : World) :
    Calls Tryd.prog 26 #[.string s] w fun e w' => e = .returned (V 3 0 s) ∧ Below w.heap.size w w' := by
  go_enter Tryd.func26, Tryd.ntmps26
  go_wp2
  exact bodyPost_ret (v := V 3 0 s) (by simp [results, Tryd.results26, go_sem]) rfl ⟨rfl, (Below.refl _ _).alloc (Nat.le_refl _) _⟩

/-- 1 of true, 0 of false. -/
def oneOf (b : Bool) : Int := if b then 1 else 0

theorem bool_any (b : Bool) (w : World) :
    Calls Tryd.prog 46 #[.bool b] w fun e w' => e = .returned (V 1 (oneOf b) E0) ∧ Below w.heap.size w w' := by
  cases b
  · go_enter Tryd.func46, Tryd.ntmps46
    go_wp2
    exact bodyPost_ret (v := V 1 0 E0) (by simp [results, Tryd.results46, go_sem]) rfl ⟨rfl, ((Below.refl _ _).alloc (Nat.le_refl _) _).alloc (by simp) _⟩
  · go_enter Tryd.func46, Tryd.ntmps46
    go_wp2
    exact bodyPost_ret (v := V 1 1 E0) (by simp [results, Tryd.results46, go_sem]) rfl ⟨rfl, ((Below.refl _ _).alloc (Nat.le_refl _) _).alloc (by simp) _⟩

theorem refBool_any (b : Bool) (w : World) :
    Calls Tryd.prog 32 #[.bool b] w fun e w' => e = .returned (V 1 (oneOf b) E0) ∧ Below w.heap.size w w' := by
  cases b
  · go_enter Tryd.func32, Tryd.ntmps32
    go_wp2
    exact bodyPost_ret (v := V 1 0 E0) (by simp [results, Tryd.results32, go_sem]) rfl ⟨rfl, (Below.refl _ _).alloc (Nat.le_refl _) _⟩
  · go_enter Tryd.func32, Tryd.ntmps32
    go_wp2
    exact bodyPost_ret (v := V 1 1 E0) (by simp [results, Tryd.results32, go_sem]) rfl ⟨rfl, (Below.refl _ _).alloc (Nat.le_refl _) _⟩

/-- Null, or of the type k? -/
def fitsB (t n : Int) (s : ByteArray) (k : Int) : Bool := isNull t n s || t == k

/-- The three cells of a value in memory, in every world of the class. -/
theorem cells3 {w : World} {b : Nat} {t n : Int} {s : ByteArray} (h0 : w.cell? ⟨b, 0, none⟩ = some (.int .i64 t)) (h1 : w.cell? ⟨b, 1, none⟩ = some (.int .i64 n)) (h2 : w.cell? ⟨b, 2, none⟩ = some (.string s)) (d : Nat) (os : Array Obj) :
    (grow (redrawn w d) os).cell? ⟨b, 0, none⟩ = some (.int .i64 t) ∧ (grow (redrawn w d) os).cell? ⟨b, 1, none⟩ = some (.int .i64 n) ∧ (grow (redrawn w d) os).cell? ⟨b, 2, none⟩ = some (.string s) :=
  ⟨cell_regrown h0 d os, cell_regrown h1 d os, cell_regrown h2 d os⟩

/-- One new block, and then whatever grows behind it. -/
theorem bnew {w w1 : World} {o : Obj} (h : Below (w.alloc o).heap.size (w.alloc o) w1) : Below w.heap.size w w1 :=
  ((Below.refl _ _).alloc (Nat.le_refl _) o).trans (h.mono (by simp))

/-- Is one of two null? -/
def anyN (t n : Int) (s : ByteArray) (t' n' : Int) (s' : ByteArray) : Bool := isNull t n s || isNull t' n' s'

end Go.Proofs.YtcnbbmgclphfdaaDoor
