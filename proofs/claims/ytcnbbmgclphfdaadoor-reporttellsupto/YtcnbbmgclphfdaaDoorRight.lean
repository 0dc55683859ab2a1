/- Contracts of Right (the program's and the document's) and True at any value. -/
import Derived.Test.YtcnbbmgclphfdaaDoorLogic
import Derived.Deep.Light
namespace Go.Proofs.YtcnbbmgclphfdaaDoor
open Go.RowKit Go.Sort

/-- What Right answers. -/
def rightE (t n : Int) (s : ByteArray) : Int :=
  if t = 0 then (if n = 0 ∧ s.toList = [] then 0 else 2) else if t = 1 then (if (n = 0 ∨ n = 1) ∧ s.toList = [] then 0 else 2)
  else if t = 2 then (if s.toList = [] then 0 else 2) else if t = 3 then (if n = 0 then (if 1000 < s.size then 8 else 0) else 2) else 2

theorem t5 (t : Int) : t = 0 ∨ t = 1 ∨ t = 2 ∨ t = 3 ∨ ((t == 0) = false ∧ (t == 1) = false ∧ (t == 2) = false ∧ (t == 3) = false) := by
  simp; omega


set_option maxHeartbeats 1000000 in
theorem right_any (t n : Int) (s : ByteArray) (w : World) :
    Calls Tryd.prog 55 #[V t n s] w fun e w' => e = .returned (.int .i64 (rightE t n s)) ∧ Below w.heap.size w w' := by
  rcases t5 t with rfl | rfl | rfl | rfl | ⟨t0, t1, t2, t3⟩
  all_goals
    go_enter Tryd.func55, Tryd.ntmps55
    go_wp2
    all_goals
      go_ret
      go_light
      refine ⟨ret_int ?_, ?_⟩
      · first | (simp_all [rightE]; done) | (simp_all [rightE]; omega)
      · first | exact (Below.refl _ _).alloc (Nat.le_refl _) _ | exact ((Below.refl _ _).alloc (Nat.le_refl _) _).alloc (by simp) _

set_option maxHeartbeats 1000000 in
theorem refRight_any (t n : Int) (s : ByteArray) (w : World) :
    Calls Tryd.prog 8 #[V t n s] w fun e w' => e = .returned (.int .i64 (rightE t n s)) ∧ Below w.heap.size w w' := by
  rcases t5 t with rfl | rfl | rfl | rfl | ⟨t0, t1, t2, t3⟩
  all_goals
    go_enter Tryd.func8, Tryd.ntmps8
    go_wp2
    all_goals
      go_ret
      go_light
      refine ⟨ret_int ?_, ?_⟩
      · first | (simp_all [rightE]; done) | (simp_all [rightE]; omega)
      · first | exact (Below.refl _ _).alloc (Nat.le_refl _) _ | exact ((Below.refl _ _).alloc (Nat.le_refl _) _).alloc (by simp) _

theorem true_any (t n : Int) (s : ByteArray) (w : World) :
    Calls Tryd.prog 29 #[V t n s] w fun e w' => e = .returned (.bool (veq t n s 1 (oneOf true) E0)) ∧ Below w.heap.size w w' := by
  have hv := run_veq
  have c := (At.alloc w t n s).cells
  go_enter Tryd.func29, Tryd.ntmps29
  go_wp2
  refine wp_region_quiet_below (by kernel_rfl) (by kernel_rfl) ?_
  repeat (quiet_step (exact Calls.regrown_of (bool_any _ _)))
  refine wpQuiet_nil ?_
  rintro _ ⟨⟨dq, osq⟩, rfl⟩
  have hb := below_regrown (w.alloc (.cells #[.int .i64 t, .int .i64 n, .string s] 28)) dq osq
  clear c hv
  generalize grow (redrawn (w.alloc (.cells #[.int .i64 t, .int .i64 n, .string s] 28)) dq) osq = w1 at hb ⊢
  go_wp2
  go_ret
  exact ⟨rfl, bnew hb⟩

end Go.Proofs.YtcnbbmgclphfdaaDoor
