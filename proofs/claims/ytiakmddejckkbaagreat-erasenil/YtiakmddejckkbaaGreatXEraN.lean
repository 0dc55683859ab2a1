/- Layer 20's calls where there is no store, and no catalog. -/
import Derived.Test.YtiakmddejckkbaaGreatXEraW
import Derived.Test.YtiakmddejckkbaaGreatChecked
import Derived.WalkKit
import Derived.WalkLawsBesides
import Derived.Outline
namespace Go.Proofs.YtiakmddejckkbaaGreat
open Go.RowKit

theorem tab_none : CallOK Tryz.prog (tabX []) := tab_ok (fun e he => by cases he)
theorem closed_any {g n : Nat} {xs : List Value} (hx : xs.all flatB = true) (h : (runA (tabX []) Tryz.prog n g xs AW0).isSome = true) (w : World) : Calls Tryz.prog g xs.toArray w fun e w' => ∃ v, e = .returned v ∧ Below w.heap.size w w' := by
  obtain ⟨⟨v, σ'⟩, hr⟩ := Option.isSome_iff_exists.1 h
  obtain ⟨_, hc⟩ := run_ok mixed named tab_none n g xs AW0 v σ' hr
  have hfl : ∀ x ∈ xs, Fl x := fun x hx' => flatB_fl (List.all_eq_true.1 hx x hx')
  have hm : ∀ ρ : Rn, xs.map (ren ρ) = xs := fun ρ => by
    clear hr hc hx h
    induction xs with
    | nil => rfl
    | cons y l ih => rw [List.map_cons, hfl y (by simp) ρ, ih (fun z hz => hfl z (List.mem_cons_of_mem _ hz))]
  have := hc (fun k => (k, 0)) w (rel_none _ w) (fun x hx' => (hfl x hx').sc _)
  rw [hm] at this
  refine Calls.mono this ?_
  rintro e w' ⟨ρ', rfl, hst, _⟩
  refine ⟨_, rfl, ⟨hst.os, hst.tape, hst.output, hst.size, fun b hb => hst.same b hb (fun k hk => ?_)⟩⟩
  have e : ∀ {α : Type} (d : α) (k : Nat), getN d [] k = d := fun d k => by cases k <;> rfl
  have : (AW0.get k).kind = 0 := by simp [AW.get, AW0, e, noBlk]
  exact absurd this hk.1
theorem closed_value {g n : Nat} {xs : List Value} {v : Value} (hx : xs.all flatB = true) (h : comesTo (runA (tabX []) Tryz.prog n g xs AW0) (fun u => veq u v) = true) (w : World) : Calls Tryz.prog g xs.toArray w fun e w' => e = .returned v ∧ Below w.heap.size w w' := by
  refine (closed_call mixed named tab_none hx h w).mono ?_
  rintro e w' ⟨u, rfl, hu, hb⟩
  exact ⟨by rw [veq_eq hu], hb⟩

set_option maxRecDepth 1000000 in
theorem show_nil (l : Int) (w : World) : Calls Tryz.prog 28 #[.pointer none, .int .i64 l] w fun e w' => e = .returned (.slice none 0 0) ∧ Below w.heap.size w w' :=
  closed_value (n := 100) (xs := [.pointer none, .int .i64 l]) rfl (by kernel_rfl) w
set_option maxRecDepth 1000000 in
theorem same_nil (l : Int) (w : World) : Calls Tryz.prog 29 #[.pointer none, .pointer none, .int .i64 l] w fun e w' => e = .returned (.bool true) ∧ Below w.heap.size w w' :=
  closed_value (n := 100) (xs := [.pointer none, .pointer none, .int .i64 l]) rfl (by kernel_rfl) w
set_option maxRecDepth 1000000 in
theorem mix_nil (l : Int) (w : World) : Calls Tryz.prog 30 #[.pointer none, .pointer none, .int .i64 l] w fun e w' => e = .returned (.pointer none) ∧ Below w.heap.size w w' :=
  closed_value (n := 100) (xs := [.pointer none, .pointer none, .int .i64 l]) rfl (by kernel_rfl) w
set_option maxRecDepth 1000000 in
theorem channels_nil (w : World) : Calls Tryz.prog 11 #[.pointer none] w fun e w' => e = .returned (.slice none 0 0) ∧ Below w.heap.size w w' :=
  closed_value (n := 100) (xs := [.pointer none]) rfl (by kernel_rfl) w
set_option maxRecDepth 1000000 in
theorem sight_nil (l : Int) (w : World) : Calls Tryz.prog 65 #[.pointer none, .int .i64 l] w fun e w' => ∃ v, e = .returned v ∧ Below w.heap.size w w' :=
  closed_any (n := 100) (xs := [.pointer none, .int .i64 l]) rfl (by kernel_rfl) w

end Go.Proofs.YtiakmddejckkbaaGreat
