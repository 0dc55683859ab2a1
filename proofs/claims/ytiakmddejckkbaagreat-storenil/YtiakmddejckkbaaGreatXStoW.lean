/- cordonlaw12.StoreNil: whatever the input, it returns true, and leaves all memory that was there as it was. -/
import Derived.Test.YtiakmddejckkbaaGreatXSto0
import Derived.Test.YtiakmddejckkbaaGreatXSto1
import Derived.Test.YtiakmddejckkbaaGreatXSto2
namespace Go.Proofs.YtiakmddejckkbaaGreat
open Go.RowKit

theorem sto0_ok : ∀ e ∈ [sto0], EntOK Tryz.prog e := by
  have h := seg_ok mixed named (l := []) (fun e he => by cases he) sto0_seg
  intro e he
  rcases List.mem_singleton.1 he with rfl
  exact h
theorem sto1_ok : ∀ e ∈ [sto0, sto1], EntOK Tryz.prog e := by
  have h := seg_ok mixed named sto0_ok sto1_seg
  intro e he
  rcases List.mem_append.1 (show e ∈ [sto0] ++ [sto1] from he) with he | he
  · exact sto0_ok e he
  · rcases List.mem_singleton.1 he with rfl
    exact h
theorem sto2_ok : ∀ e ∈ [sto0, sto1, sto2], EntOK Tryz.prog e := by
  have h := seg_ok mixed named sto1_ok sto2_seg
  intro e he
  rcases List.mem_append.1 (show e ∈ [sto0, sto1] ++ [sto2] from he) with he | he
  · exact sto1_ok e he
  · rcases List.mem_singleton.1 he with rfl
    exact h
/-- Is it true? -/
def isTrueV : Value → Bool
  | .bool b => b
  | _ => false
set_option maxRecDepth 1000000 in
theorem storeNil_runA (t : Int) (o : Nat) (sp : Option Nat) (l c : Nat) : comesTo (runA (tabX [sto0, sto1, sto2]) Tryz.prog 5000 4 [.int .i64 t, .slice (some ⟨0, o, sp⟩) l (2 * c)] AW1) isTrueV = true := by kernel_rfl
set_option maxRecDepth 1000000 in
theorem storeNil_runN (t : Int) (l c : Nat) : comesTo (runA (tabX [sto0, sto1, sto2]) Tryz.prog 5000 4 [.int .i64 t, .slice none l c] AW1) isTrueV = true := by kernel_rfl
theorem storeNil_any (t : Int) (a : Option Addr) (l c : Nat) (w : World) : Calls Tryz.prog 4 #[.int .i64 t, .slice a l c] w fun e w' => e = .returned (.bool true) ∧ Below w.heap.size w w' := by
  cases a with
  | none =>
    have h := closed_call1 mixed named (tab_ok sto2_ok) (storeNil_runN t l c) 0 (fun x hx => by
      rcases List.mem_cons.1 hx with rfl | hx
      · exact fun _ _ _ => rfl
      · rcases List.mem_singleton.1 hx with rfl
        exact fun _ _ _ => rfl) w
    refine Calls.mono h ?_
    rintro e w' ⟨v, rfl, hv, hb⟩
    cases v with
    | bool b => exact ⟨by rw [show b = true from hv], hb⟩
    | _ => cases hv
  | some ad =>
    obtain ⟨b, o, sp⟩ := ad
    have h := closed_call1 mixed named (tab_ok sto2_ok) (storeNil_runA t o sp l c) b (fun x hx => by
      rcases List.mem_cons.1 hx with rfl | hx
      · exact fun _ _ _ => rfl
      · rcases List.mem_singleton.1 hx with rfl
        exact sc_slice dom1) w
    have e : (([.int .i64 t, .slice (some ⟨0, o, sp⟩) l (2 * c)] : List Value).map (ren fun _ => (b, 0))).toArray = #[.int .i64 t, .slice (some ⟨b, o, sp⟩) l c] := by
      simp only [List.map_cons, List.map_nil, ren_slice, capR_even]
      rfl
    rw [e] at h
    refine Calls.mono h ?_
    rintro e w' ⟨v, rfl, hv, hb⟩
    cases v with
    | bool b => exact ⟨by rw [show b = true from hv], hb⟩
    | _ => cases hv

end Go.Proofs.YtiakmddejckkbaaGreat
