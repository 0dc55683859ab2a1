/- cordonlaw08.SchemaNil: whatever the input, it returns true, and leaves all memory that was there as it was. -/
import Derived.Test.YtiakmddejckkbaaGreatXSch0
import Derived.Test.YtiakmddejckkbaaGreatXSch1
import Derived.Test.YtiakmddejckkbaaGreatXSch2
import Derived.Test.YtiakmddejckkbaaGreatXSch3
namespace Go.Proofs.YtiakmddejckkbaaGreat
open Go.RowKit

theorem sch0_ok : ∀ e ∈ [sch0], EntOK Tryz.prog e := by
  have h := seg_ok mixed named (l := []) (fun e he => by cases he) sch0_seg
  intro e he
  rcases List.mem_singleton.1 he with rfl
  exact h
theorem sch1_ok : ∀ e ∈ [sch0, sch1], EntOK Tryz.prog e := by
  have h := seg_ok mixed named sch0_ok sch1_seg
  intro e he
  rcases List.mem_append.1 (show e ∈ [sch0] ++ [sch1] from he) with he | he
  · exact sch0_ok e he
  · rcases List.mem_singleton.1 he with rfl
    exact h
theorem sch2_ok : ∀ e ∈ [sch0, sch1, sch2], EntOK Tryz.prog e := by
  have h := seg_ok mixed named sch1_ok sch2_seg
  intro e he
  rcases List.mem_append.1 (show e ∈ [sch0, sch1] ++ [sch2] from he) with he | he
  · exact sch1_ok e he
  · rcases List.mem_singleton.1 he with rfl
    exact h
theorem sch3_ok : ∀ e ∈ [sch0, sch1, sch2, sch3], EntOK Tryz.prog e := by
  have h := seg_ok mixed named sch2_ok sch3_seg
  intro e he
  rcases List.mem_append.1 (show e ∈ [sch0, sch1, sch2] ++ [sch3] from he) with he | he
  · exact sch2_ok e he
  · rcases List.mem_singleton.1 he with rfl
    exact h
theorem sch4_ok : ∀ e ∈ [sch0, sch1, sch2, sch3, sch4], EntOK Tryz.prog e := by
  have h := seg_ok mixed named sch3_ok sch4_seg
  intro e he
  rcases List.mem_append.1 (show e ∈ [sch0, sch1, sch2, sch3] ++ [sch4] from he) with he | he
  · exact sch3_ok e he
  · rcases List.mem_singleton.1 he with rfl
    exact h
theorem sch5_ok : ∀ e ∈ [sch0, sch1, sch2, sch3, sch4, sch5], EntOK Tryz.prog e := by
  have h := seg_ok mixed named sch4_ok sch5_seg
  intro e he
  rcases List.mem_append.1 (show e ∈ [sch0, sch1, sch2, sch3, sch4] ++ [sch5] from he) with he | he
  · exact sch4_ok e he
  · rcases List.mem_singleton.1 he with rfl
    exact h
/-- Is it true? -/
def isTrueV : Value → Bool
  | .bool b => b
  | _ => false
set_option maxRecDepth 1000000 in
theorem schemaNil_run (s : ByteArray) : comesTo (runA (tabX [sch0, sch1, sch2, sch3, sch4, sch5]) Tryz.prog 5000 3 [.string s] AW0) isTrueV = true := by kernel_rfl
theorem schemaNil_any (s : ByteArray) (w : World) : Calls Tryz.prog 3 #[.string s] w fun e w' => e = .returned (.bool true) ∧ Below w.heap.size w w' := by
  refine (closed_call mixed named (tab_ok sch5_ok) (xs := [.string s]) rfl (schemaNil_run s) w).mono ?_
  rintro e w' ⟨v, rfl, hv, hb⟩
  cases v with
  | bool b => exact ⟨by rw [show b = true from hv], hb⟩
  | _ => cases hv
theorem schemaNil_walk (s : ByteArray) (_ : s.size ≤ maxLen) (w : World) : Calls Tryz.prog 3 #[.string s] w fun e w' => e = .returned (.bool true) ∧ Below w.heap.size w w' := schemaNil_any s w

end Go.Proofs.YtiakmddejckkbaaGreat
