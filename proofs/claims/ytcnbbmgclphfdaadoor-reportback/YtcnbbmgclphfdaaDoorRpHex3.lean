/- The library reads the two digits of base 16 of a byte, part 3. -/
import Derived.Test.YtcnbbmgclphfdaaDoorRpByte
import Derived.Lib.ConvBytes
import Derived.Lib.SmallJoins
namespace Go.Proofs.YtcnbbmgclphfdaaDoor
open Go.RowKit Go.Sort

set_option maxHeartbeats 4000000 in
set_option maxRecDepth 100000 in
theorem parse_27 (w : World) : Calls Tryd.prog 97 #[.string ⟨#[49, 98]⟩, .int .i64 16, .int .i64 8] w fun e w' => e = .returned (.tuple #[.int .u64 27, .nilIface]) ∧ Below w.heap.size w w' := by
  obtain ⟨Wb, hWb⟩ : ∃ Wb, Wb = Lib.bytesWorld w 5 ⟨#[49, 98]⟩ := ⟨_, rfl⟩
  have hcv := Lib.run_convert_string_bytes (P := Tryd.prog) w 9 58 5 ⟨#[49, 98]⟩ Tryd.underlying9 Tryd.underlying58 Tryd.underlying5
  have c0 : Wb.cell? ⟨w.heap.size, 0, none⟩ = some (.int .u8 49) := by rw [hWb]; exact Lib.bytesWorld_cell w _ _ 0 (by decide)
  have c1 : Wb.cell? ⟨w.heap.size, 1, none⟩ = some (.int .u8 98) := by rw [hWb]; exact Lib.bytesWorld_cell w _ _ 1 (by decide)
  have bb : Below w.heap.size w Wb := by rw [hWb]; exact Go.Joins.below_bytesWorld _ _ _ _ (Nat.le_refl _)
  rw [← hWb, show (⟨#[49, 98]⟩ : ByteArray).size = 2 from rfl] at hcv
  have hcg := grownCap_ge w 2 0 5
  generalize grownCap w 2 0 5 = cap at hcv hcg
  clear hWb
  go_enter Tryd.func97, Tryd.ntmps97
  go_wp2
  refine wp_loop_rounds 3 ?_
  rw [rounds_succ]
  go_wp2
  rw [rounds_succ]
  go_wp2
  rw [rounds_succ]
  go_wp2
  go_ret2
  exact ⟨rfl, bb⟩
set_option maxHeartbeats 4000000 in
set_option maxRecDepth 100000 in
theorem parse_28 (w : World) : Calls Tryd.prog 97 #[.string ⟨#[49, 99]⟩, .int .i64 16, .int .i64 8] w fun e w' => e = .returned (.tuple #[.int .u64 28, .nilIface]) ∧ Below w.heap.size w w' := by
  obtain ⟨Wb, hWb⟩ : ∃ Wb, Wb = Lib.bytesWorld w 5 ⟨#[49, 99]⟩ := ⟨_, rfl⟩
  have hcv := Lib.run_convert_string_bytes (P := Tryd.prog) w 9 58 5 ⟨#[49, 99]⟩ Tryd.underlying9 Tryd.underlying58 Tryd.underlying5
  have c0 : Wb.cell? ⟨w.heap.size, 0, none⟩ = some (.int .u8 49) := by rw [hWb]; exact Lib.bytesWorld_cell w _ _ 0 (by decide)
  have c1 : Wb.cell? ⟨w.heap.size, 1, none⟩ = some (.int .u8 99) := by rw [hWb]; exact Lib.bytesWorld_cell w _ _ 1 (by decide)
  have bb : Below w.heap.size w Wb := by rw [hWb]; exact Go.Joins.below_bytesWorld _ _ _ _ (Nat.le_refl _)
  rw [← hWb, show (⟨#[49, 99]⟩ : ByteArray).size = 2 from rfl] at hcv
  have hcg := grownCap_ge w 2 0 5
  generalize grownCap w 2 0 5 = cap at hcv hcg
  clear hWb
  go_enter Tryd.func97, Tryd.ntmps97
  go_wp2
  refine wp_loop_rounds 3 ?_
  rw [rounds_succ]
  go_wp2
  rw [rounds_succ]
  go_wp2
  rw [rounds_succ]
  go_wp2
  go_ret2
  exact ⟨rfl, bb⟩
set_option maxHeartbeats 4000000 in
set_option maxRecDepth 100000 in
theorem parse_29 (w : World) : Calls Tryd.prog 97 #[.string ⟨#[49, 100]⟩, .int .i64 16, .int .i64 8] w fun e w' => e = .returned (.tuple #[.int .u64 29, .nilIface]) ∧ Below w.heap.size w w' := by
  obtain ⟨Wb, hWb⟩ : ∃ Wb, Wb = Lib.bytesWorld w 5 ⟨#[49, 100]⟩ := ⟨_, rfl⟩
  have hcv := Lib.run_convert_string_bytes (P := Tryd.prog) w 9 58 5 ⟨#[49, 100]⟩ Tryd.underlying9 Tryd.underlying58 Tryd.underlying5
  have c0 : Wb.cell? ⟨w.heap.size, 0, none⟩ = some (.int .u8 49) := by rw [hWb]; exact Lib.bytesWorld_cell w _ _ 0 (by decide)
  have c1 : Wb.cell? ⟨w.heap.size, 1, none⟩ = some (.int .u8 100) := by rw [hWb]; exact Lib.bytesWorld_cell w _ _ 1 (by decide)
  have bb : Below w.heap.size w Wb := by rw [hWb]; exact Go.Joins.below_bytesWorld _ _ _ _ (Nat.le_refl _)
  rw [← hWb, show (⟨#[49, 100]⟩ : ByteArray).size = 2 from rfl] at hcv
  have hcg := grownCap_ge w 2 0 5
  generalize grownCap w 2 0 5 = cap at hcv hcg
  clear hWb
  go_enter Tryd.func97, Tryd.ntmps97
  go_wp2
  refine wp_loop_rounds 3 ?_
  rw [rounds_succ]
  go_wp2
  rw [rounds_succ]
  go_wp2
  rw [rounds_succ]
  go_wp2
  go_ret2
  exact ⟨rfl, bb⟩
set_option maxHeartbeats 4000000 in
set_option maxRecDepth 100000 in
theorem parse_30 (w : World) : Calls Tryd.prog 97 #[.string ⟨#[49, 101]⟩, .int .i64 16, .int .i64 8] w fun e w' => e = .returned (.tuple #[.int .u64 30, .nilIface]) ∧ Below w.heap.size w w' := by
  obtain ⟨Wb, hWb⟩ : ∃ Wb, Wb = Lib.bytesWorld w 5 ⟨#[49, 101]⟩ := ⟨_, rfl⟩
  have hcv := Lib.run_convert_string_bytes (P := Tryd.prog) w 9 58 5 ⟨#[49, 101]⟩ Tryd.underlying9 Tryd.underlying58 Tryd.underlying5
  have c0 : Wb.cell? ⟨w.heap.size, 0, none⟩ = some (.int .u8 49) := by rw [hWb]; exact Lib.bytesWorld_cell w _ _ 0 (by decide)
  have c1 : Wb.cell? ⟨w.heap.size, 1, none⟩ = some (.int .u8 101) := by rw [hWb]; exact Lib.bytesWorld_cell w _ _ 1 (by decide)
  have bb : Below w.heap.size w Wb := by rw [hWb]; exact Go.Joins.below_bytesWorld _ _ _ _ (Nat.le_refl _)
  rw [← hWb, show (⟨#[49, 101]⟩ : ByteArray).size = 2 from rfl] at hcv
  have hcg := grownCap_ge w 2 0 5
  generalize grownCap w 2 0 5 = cap at hcv hcg
  clear hWb
  go_enter Tryd.func97, Tryd.ntmps97
  go_wp2
  refine wp_loop_rounds 3 ?_
  rw [rounds_succ]
  go_wp2
  rw [rounds_succ]
  go_wp2
  rw [rounds_succ]
  go_wp2
  go_ret2
  exact ⟨rfl, bb⟩
set_option maxHeartbeats 4000000 in
set_option maxRecDepth 100000 in
theorem parse_31 (w : World) : Calls Tryd.prog 97 #[.string ⟨#[49, 102]⟩, .int .i64 16, .int .i64 8] w fun e w' => e = .returned (.tuple #[.int .u64 31, .nilIface]) ∧ Below w.heap.size w w' := by
  obtain ⟨Wb, hWb⟩ : ∃ Wb, Wb = Lib.bytesWorld w 5 ⟨#[49, 102]⟩ := ⟨_, rfl⟩
  have hcv := Lib.run_convert_string_bytes (P := Tryd.prog) w 9 58 5 ⟨#[49, 102]⟩ Tryd.underlying9 Tryd.underlying58 Tryd.underlying5
  have c0 : Wb.cell? ⟨w.heap.size, 0, none⟩ = some (.int .u8 49) := by rw [hWb]; exact Lib.bytesWorld_cell w _ _ 0 (by decide)
  have c1 : Wb.cell? ⟨w.heap.size, 1, none⟩ = some (.int .u8 102) := by rw [hWb]; exact Lib.bytesWorld_cell w _ _ 1 (by decide)
  have bb : Below w.heap.size w Wb := by rw [hWb]; exact Go.Joins.below_bytesWorld _ _ _ _ (Nat.le_refl _)
  rw [← hWb, show (⟨#[49, 102]⟩ : ByteArray).size = 2 from rfl] at hcv
  have hcg := grownCap_ge w 2 0 5
  generalize grownCap w 2 0 5 = cap at hcv hcg
  clear hWb
  go_enter Tryd.func97, Tryd.ntmps97
  go_wp2
  refine wp_loop_rounds 3 ?_
  rw [rounds_succ]
  go_wp2
  rw [rounds_succ]
  go_wp2
  rw [rounds_succ]
  go_wp2
  go_ret2
  exact ⟨rfl, bb⟩
set_option maxHeartbeats 4000000 in
set_option maxRecDepth 100000 in
theorem parse_92 (w : World) : Calls Tryd.prog 97 #[.string ⟨#[53, 99]⟩, .int .i64 16, .int .i64 8] w fun e w' => e = .returned (.tuple #[.int .u64 92, .nilIface]) ∧ Below w.heap.size w w' := by
  obtain ⟨Wb, hWb⟩ : ∃ Wb, Wb = Lib.bytesWorld w 5 ⟨#[53, 99]⟩ := ⟨_, rfl⟩
  have hcv := Lib.run_convert_string_bytes (P := Tryd.prog) w 9 58 5 ⟨#[53, 99]⟩ Tryd.underlying9 Tryd.underlying58 Tryd.underlying5
  have c0 : Wb.cell? ⟨w.heap.size, 0, none⟩ = some (.int .u8 53) := by rw [hWb]; exact Lib.bytesWorld_cell w _ _ 0 (by decide)
  have c1 : Wb.cell? ⟨w.heap.size, 1, none⟩ = some (.int .u8 99) := by rw [hWb]; exact Lib.bytesWorld_cell w _ _ 1 (by decide)
  have bb : Below w.heap.size w Wb := by rw [hWb]; exact Go.Joins.below_bytesWorld _ _ _ _ (Nat.le_refl _)
  rw [← hWb, show (⟨#[53, 99]⟩ : ByteArray).size = 2 from rfl] at hcv
  have hcg := grownCap_ge w 2 0 5
  generalize grownCap w 2 0 5 = cap at hcv hcg
  clear hWb
  go_enter Tryd.func97, Tryd.ntmps97
  go_wp2
  refine wp_loop_rounds 3 ?_
  rw [rounds_succ]
  go_wp2
  rw [rounds_succ]
  go_wp2
  rw [rounds_succ]
  go_wp2
  go_ret2
  exact ⟨rfl, bb⟩

end Go.Proofs.YtcnbbmgclphfdaaDoor
