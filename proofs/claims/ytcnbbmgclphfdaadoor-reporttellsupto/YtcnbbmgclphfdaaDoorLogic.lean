/- Contracts of the layer's logic at any two values: what And, Or and Not hand back, and why not; nothing that was there has turned. -/
import Derived.Test.YtcnbbmgclphfdaaDoorNum
import Derived.Deep.RegionWith
namespace Go.Proofs.YtcnbbmgclphfdaaDoor
open Go.RowKit Go.Sort

/-- What and (wins: false) and or (wins: true) hand back: the value, and the error's number. -/
def decV (wins : Bool) (t n : Int) (s : ByteArray) (t' n' : Int) (s' : ByteArray) : Value :=
  if (!fitsB t n s 1 || !fitsB t' n' s' 1) = true then V 0 0 E0 else if (veq t n s 1 (oneOf wins) E0 || veq t' n' s' 1 (oneOf wins) E0) = true then V 1 (oneOf wins) E0 else if anyN t n s t' n' s' = true then V 0 0 E0 else V 1 (oneOf (!wins)) E0
def decE (t n : Int) (s : ByteArray) (t' n' : Int) (s' : ByteArray) : Int := if (!fitsB t n s 1 || !fitsB t' n' s' 1) = true then 3 else 0

/-- A value's three parts. -/
structure Parts where
  t : Int
  n : Int
  s : ByteArray
/-- What and and or hand back, as parts. -/
def decP (wins : Bool) (t n : Int) (s : ByteArray) (t' n' : Int) (s' : ByteArray) : Parts :=
  if (!fitsB t n s 1 || !fitsB t' n' s' 1) = true then ⟨0, 0, E0⟩ else if (veq t n s 1 (oneOf wins) E0 || veq t' n' s' 1 (oneOf wins) E0) = true then ⟨1, oneOf wins, E0⟩ else if anyN t n s t' n' s' = true then ⟨0, 0, E0⟩ else ⟨1, oneOf (!wins), E0⟩
theorem decV_parts (wins : Bool) (t n : Int) (s : ByteArray) (t' n' : Int) (s' : ByteArray) : decV wins t n s t' n' s' = V (decP wins t n s t' n' s').t (decP wins t n s t' n' s').n (decP wins t n s t' n' s').s := by
  unfold decV decP; split <;> (try split) <;> (try split) <;> rfl
/-- What not hands back. -/
def notP (t n : Int) (s : ByteArray) : Parts := if fitsB t n s 1 = false then ⟨0, 0, E0⟩ else if veq t n s 0 0 E0 = true then ⟨0, 0, E0⟩ else ⟨1, oneOf (veq t n s 1 0 E0), E0⟩
def notE (t n : Int) (s : ByteArray) : Int := if fitsB t n s 1 = false then 3 else 0
theorem ret_int {k : IntKind} {a b : Int} (h : a = b) : Ending.returned (.int k a) = .returned (.int k b) := by rw [h]
/-- A value lies in a block. -/
def At (w : World) (b : Nat) (t n : Int) (s : ByteArray) : Prop :=
  w.cell? ⟨b, 0, none⟩ = some (.int .i64 t) ∧ w.cell? ⟨b, 1, none⟩ = some (.int .i64 n) ∧ w.cell? ⟨b, 2, none⟩ = some (.string s)
theorem At.keep {w w' : World} {b : Nat} {t n : Int} {s : ByteArray} (h : At w b t n s) (k : Below w.heap.size w w') : At w' b t n s :=
  ⟨(k.cell (block_lt_of_cell h.1)).trans h.1, (k.cell (block_lt_of_cell h.2.1)).trans h.2.1, (k.cell (block_lt_of_cell h.2.2)).trans h.2.2⟩
theorem At.drew {w : World} {b : Nat} {t n : Int} {s : ByteArray} (h : At w b t n s) : At w.drew b t n s := h
theorem At.alloc' {w : World} {b : Nat} {t n : Int} {s : ByteArray} (h : At w b t n s) (o : Obj) : At (w.alloc o) b t n s := h.keep ((Below.refl _ _).alloc (Nat.le_refl _) o)
theorem At.alloc (w : World) (t n : Int) (s : ByteArray) : At (w.alloc (.cells #[.int .i64 t, .int .i64 n, .string s] 28)) w.heap.size t n s :=
  ⟨by simp [go_sem], by simp [go_sem], by simp [go_sem]⟩
theorem At.cells {w : World} {b : Nat} {t n : Int} {s : ByteArray} (h : At w b t n s) (d : Nat) (os : Array Obj) :
    (grow (redrawn w d) os).cell? ⟨b, 0, none⟩ = some (.int .i64 t) ∧ (grow (redrawn w d) os).cell? ⟨b, 1, none⟩ = some (.int .i64 n) ∧ (grow (redrawn w d) os).cell? ⟨b, 2, none⟩ = some (.string s) := cells3 h.1 h.2.1 h.2.2 d os

end Go.Proofs.YtcnbbmgclphfdaaDoor
