/- cordonlaw20.alive: whatever the input, it returns true, and leaves all memory that was there as it was. -/
import Derived.Test.YtiakmddejckkbaaGreatXEra0
import Derived.Test.YtiakmddejckkbaaGreatXEra1
import Derived.Test.YtiakmddejckkbaaGreatXEra2
import Derived.Test.YtiakmddejckkbaaGreatXEra3
namespace Go.Proofs.YtiakmddejckkbaaGreat
open Go.RowKit

theorem era0_ok : ∀ e ∈ [era0], EntOK Tryz.prog e := by
  have h := segX_ok mixed named (or_ok (cloneX_ok named) (tab_ok (l := []) (fun e he => by cases he))) era0_seg
  intro e he
  rcases List.mem_singleton.1 he with rfl
  exact h
theorem era1_ok : ∀ e ∈ [era0, era1], EntOK Tryz.prog e := by
  have h := segX_ok mixed named (or_ok (cloneX_ok named) (tab_ok era0_ok)) era1_seg
  intro e he
  rcases List.mem_append.1 (show e ∈ [era0] ++ [era1] from he) with he | he
  · exact era0_ok e he
  · rcases List.mem_singleton.1 he with rfl
    exact h
theorem era2_ok : ∀ e ∈ [era0, era1, era2], EntOK Tryz.prog e := by
  have h := segX_ok mixed named (or_ok (cloneX_ok named) (tab_ok era1_ok)) era2_seg
  intro e he
  rcases List.mem_append.1 (show e ∈ [era0, era1] ++ [era2] from he) with he | he
  · exact era1_ok e he
  · rcases List.mem_singleton.1 he with rfl
    exact h
theorem era3_ok : ∀ e ∈ [era0, era1, era2, era3], EntOK Tryz.prog e := by
  have h := segX_ok mixed named (or_ok (cloneX_ok named) (tab_ok era2_ok)) era3_seg
  intro e he
  rcases List.mem_append.1 (show e ∈ [era0, era1, era2] ++ [era3] from he) with he | he
  · exact era2_ok e he
  · rcases List.mem_singleton.1 he with rfl
    exact h
theorem era4_ok : ∀ e ∈ [era0, era1, era2, era3, era4], EntOK Tryz.prog e := by
  have h := segX_ok mixed named (or_ok (cloneX_ok named) (tab_ok era3_ok)) era4_seg
  intro e he
  rcases List.mem_append.1 (show e ∈ [era0, era1, era2, era3] ++ [era4] from he) with he | he
  · exact era3_ok e he
  · rcases List.mem_singleton.1 he with rfl
    exact h
theorem era5_ok : ∀ e ∈ [era0, era1, era2, era3, era4, era5], EntOK Tryz.prog e := by
  have h := segX_ok mixed named (or_ok (cloneX_ok named) (tab_ok era4_ok)) era5_seg
  intro e he
  rcases List.mem_append.1 (show e ∈ [era0, era1, era2, era3, era4] ++ [era5] from he) with he | he
  · exact era4_ok e he
  · rcases List.mem_singleton.1 he with rfl
    exact h
/-- Is it true? -/
def isTrueV : Value → Bool
  | .bool b => b
  | _ => false
set_option maxRecDepth 1000000 in
theorem alive_run  : comesTo (runA (orX cloneX (tabX [era0, era1, era2, era3, era4, era5])) Tryz.prog 5000 27 [] AW0) isTrueV = true := by kernel_rfl
theorem alive_any  (w : World) : Calls Tryz.prog 27 #[] w fun e w' => e = .returned (.bool true) ∧ Below w.heap.size w w' := by
  refine (closed_call mixed named (or_ok (cloneX_ok named) (tab_ok era5_ok)) (xs := []) rfl (alive_run ) w).mono ?_
  rintro e w' ⟨v, rfl, hv, hb⟩
  cases v with
  | bool b => exact ⟨by rw [show b = true from hv], hb⟩
  | _ => cases hv
theorem alive_walk   (w : World) : Calls Tryz.prog 27 #[] w fun e w' => e = .returned (.bool true) ∧ Below w.heap.size w w' := alive_any  w

end Go.Proofs.YtiakmddejckkbaaGreat
