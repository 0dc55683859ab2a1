/- cordonlaw06.alive: closed, it returns true. -/
import Derived.Test.YtckidlbmoalomaaGreatDoorJ31


namespace Go.Proofs.YtckidlbmoalomaaGreatDoor
open Go.RowKit

theorem syj0_ok : ∀ e ∈ [syj0], EntOK Tryz.prog e := by
  have h := segX_ok mixed named (or_ok tokX_ok (tab_ok (l := []) (fun e he => by cases he))) syj0_seg
  intro e he
  rcases List.mem_singleton.1 he with rfl
  exact h
theorem syj1_ok : ∀ e ∈ [syj0, syj1], EntOK Tryz.prog e := by
  have h := segX_ok mixed named (or_ok tokX_ok (tab_ok syj0_ok)) syj1_seg
  intro e he
  rcases List.mem_append.1 (show e ∈ [syj0] ++ [syj1] from he) with he | he
  · exact syj0_ok e he
  · rcases List.mem_singleton.1 he with rfl
    exact h
theorem syj2_ok : ∀ e ∈ [syj0, syj1, syj2], EntOK Tryz.prog e := by
  have h := segX_ok mixed named (or_ok tokX_ok (tab_ok syj1_ok)) syj2_seg
  intro e he
  rcases List.mem_append.1 (show e ∈ [syj0, syj1] ++ [syj2] from he) with he | he
  · exact syj1_ok e he
  · rcases List.mem_singleton.1 he with rfl
    exact h
set_option maxRecDepth 1000000 in
theorem syj_run : comesTo (runA (orX tokX (tabX [syj0, syj1, syj2])) Tryz.prog 5000 4 [] AW0) isTrueV = true := by kernel_rfl
theorem syj_c (σ : AW) : C Tryz.prog 4 [] σ fun v σ' => v = .bool true ∧ σ' = σ := by
  refine C.mono (closed_c (or_ok tokX_ok (tab_ok syj2_ok)) rfl syj_run σ) ?_
  rintro v σ' ⟨hv, rfl⟩
  cases v with
  | bool b => exact ⟨by rw [show b = true from hv], rfl⟩
  | _ => cases hv
end Go.Proofs.YtckidlbmoalomaaGreatDoor
