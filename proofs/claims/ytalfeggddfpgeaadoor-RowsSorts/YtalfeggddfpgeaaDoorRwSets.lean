/- Distinct, Except and Intersect. -/
import Derived.Test.YtalfeggddfpgeaaDoorRwOnce
import Derived.Test.YtalfeggddfpgeaaDoorRwRef
namespace Go.Proofs.YtalfeggddfpgeaaDoor
open Go.RowKit Go.Sort

theorem entered {f : FuncId} {fn : Func} (hf : Tryd.prog.funcs[f]? = some fn) (hb : fn.body.isSome = true) (hname : (fn.name == "runtime.NumGoroutine") = false) (a : Array Value) (w : World) :
    (callFunc f a).run Tryd.prog w = .ok (.enter f a) w := by
  have h1 : fn.name ≠ "runtime.NumGoroutine" := by simpa using hname
  have h2 : fn.body ≠ none := by intro h; rw [h] at hb; cases hb
  simp [callFunc, hf, h1, h2]
theorem yes_any (s : ByteArray) (w : World) : Calls Tryd.prog 24 #[.string s] w fun e w' => e = .returned (.bool true) ∧ Below w.heap.size w w' := by
  go_enter Tryd.func24, Tryd.ntmps24
  go_wp2
  go_ret
  exact ⟨rfl, Below.refl _ _⟩

theorem distinct_any (w : World) (v : Value) (L : List Row) (hl : LiesR w v L) (hr : RightL L) (hlen : L.length ≤ 1000) :
    Calls Tryd.prog 13 #[v] w fun e w' => ∃ u, e = .returned u ∧ LiesR w' u (distR L) ∧ Below w.heap.size w w' := by
  have h := once_any w v L 24 #[] (fun _ => true) hl hr hlen (entered Tryd.func24 (by kernel_rfl) (by kernel_rfl)) (fun w' _ r _ => yes_any _ _)
  go_enter Tryd.func13, Tryd.ntmps13
  go_wp2_with (go_at_call 23; refine h.mono ?_; rintro e w1 ⟨u, rfl, hu, hb1⟩)
  go_ret
  rw [List.filter_eq_self.2 (fun _ _ => rfl)] at hu
  exact ⟨_, rfl, hu, hb1⟩

theorem len_plc {B : List Row} (hB : RightL B) {r : Row} (hr : RightR r) : (((getS (shP (enumR B B.length)) (encS r)).length : Int) == 0) = (memB B r == false) := by
  rw [getS_shP _ (enumR_right hB) _ hr]
  have h := plc_nil_iff (enumR B B.length) r
  have e : (∀ x ∈ enumR B B.length, x.2 ≠ r) ↔ ¬ r ∈ B := by
    have h2 := enumR_rows (L := B) (Nat.le_refl B.length)
    rw [List.take_length] at h2
    constructor
    · intro hx hm
      rw [← h2] at hm
      obtain ⟨x, hx', rfl⟩ := List.mem_map.1 hm
      exact hx x hx' rfl
    · rintro hn x hx rfl
      exact hn (by rw [← h2]; exact List.mem_map.2 ⟨x, hx, rfl⟩)
  rw [e, ← memB_false] at h
  cases hb : memB B r
  · rw [h.2 hb]; rfl
  · have : plc (enumR B B.length) r ≠ [] := fun c => by rw [h.1 c] at hb; cases hb
    cases hp : plc (enumR B B.length) r with
    | nil => exact absurd hp this
    | cons a l => simp; omega

end Go.Proofs.YtalfeggddfpgeaaDoor
