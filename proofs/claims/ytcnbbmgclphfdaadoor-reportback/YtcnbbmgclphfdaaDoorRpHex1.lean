/- The library reads the two digits of base 16 of a byte, part 1. -/
import Derived.Test.YtcnbbmgclphfdaaDoorRpByte
import Derived.Lib.ConvBytes
import Derived.Lib.SmallJoins
namespace Go.Proofs.YtcnbbmgclphfdaaDoor
open Go.RowKit Go.Sort

set_option maxHeartbeats 4000000 in
set_option maxRecDepth 100000 in
theorem parse_9 (w : World) : Calls Tryd.prog 97 #[.string ⟨#[48, 57]⟩, .int .i64 16, .int .i64 8] w fun e w' => e = .returned (.tuple #[.int .u64 9, .nilIface]) ∧ Below w.heap.size w w' := by
  obtain ⟨Wb, hWb⟩ : ∃ Wb, Wb = Lib.bytesWorld w 5 ⟨#[48, 57]⟩ := ⟨_, rfl⟩
  have hcv := Lib.run_convert_string_bytes (P := Tryd.prog) w 9 58 5 ⟨#[48, 57]⟩ Tryd.underlying9 Tryd.underlying58 Tryd.underlying5
  have c0 : Wb.cell? ⟨w.heap.size, 0, none⟩ = some (.int .u8 48) := by rw [hWb]; exact Lib.bytesWorld_cell w _ _ 0 (by decide)
  have c1 : Wb.cell? ⟨w.heap.size, 1, none⟩ = some (.int .u8 57) := by rw [hWb]; exact Lib.bytesWorld_cell w _ _ 1 (by decide)
  have bb : Below w.heap.size w Wb := by rw [hWb]; exact Go.Joins.below_bytesWorld _ _ _ _ (Nat.le_refl _)
  rw [← hWb, show (⟨#[48, 57]⟩ : ByteArray).size = 2 from rfl] at hcv
  have hcg := grownCap_ge w 2 0 5
  generalize grownCap w 2 0 5 = cap at hcv hcg
  clear hWb
  go_enter Tryd.func97, Tryd.ntmps97
  go_wp2
  refine wp_loop_rounds 3 ?_
  rw [rounds_succ]
  go_wp2
  rw [rounds_succ]
  go_wp2
  rw [rounds_succ]
  go_wp2
  go_ret2
  exact ⟨rfl, bb⟩
set_option maxHeartbeats 4000000 in
set_option maxRecDepth 100000 in
theorem parse_10 (w : World) : Calls Tryd.prog 97 #[.string ⟨#[48, 97]⟩, .int .i64 16, .int .i64 8] w fun e w' => e = .returned (.tuple #[.int .u64 10, .nilIface]) ∧ Below w.heap.size w w' := by
  obtain ⟨Wb, hWb⟩ : ∃ Wb, Wb = Lib.bytesWorld w 5 ⟨#[48, 97]⟩ := ⟨_, rfl⟩
  have hcv := Lib.run_convert_string_bytes (P := Tryd.prog) w 9 58 5 ⟨#[48, 97]⟩ Tryd.underlying9 Tryd.underlying58 Tryd.underlying5
  have c0 : Wb.cell? ⟨w.heap.size, 0, none⟩ = some (.int .u8 48) := by rw [hWb]; exact Lib.bytesWorld_cell w _ _ 0 (by decide)
  have c1 : Wb.cell? ⟨w.heap.size, 1, none⟩ = some (.int .u8 97) := by rw [hWb]; exact Lib.bytesWorld_cell w _ _ 1 (by decide)
  have bb : Below w.heap.size w Wb := by rw [hWb]; exact Go.Joins.below_bytesWorld _ _ _ _ (Nat.le_refl _)
  rw [← hWb, show (⟨#[48, 97]⟩ : ByteArray).size = 2 from rfl] at hcv
  have hcg := grownCap_ge w 2 0 5
  generalize grownCap w 2 0 5 = cap at hcv hcg
  clear hWb
  go_enter Tryd.func97, Tryd.ntmps97
  go_wp2
  refine wp_loop_rounds 3 ?_
  rw [rounds_succ]
  go_wp2
  rw [rounds_succ]
  go_wp2
  rw [rounds_succ]
  go_wp2
  go_ret2
  exact ⟨rfl, bb⟩
set_option maxHeartbeats 4000000 in
set_option maxRecDepth 100000 in
theorem parse_11 (w : World) : Calls Tryd.prog 97 #[.string ⟨#[48, 98]⟩, .int .i64 16, .int .i64 8] w fun e w' => e = .returned (.tuple #[.int .u64 11, .nilIface]) ∧ Below w.heap.size w w' := by
  obtain ⟨Wb, hWb⟩ : ∃ Wb, Wb = Lib.bytesWorld w 5 ⟨#[48, 98]⟩ := ⟨_, rfl⟩
  have hcv := Lib.run_convert_string_bytes (P := Tryd.prog) w 9 58 5 ⟨#[48, 98]⟩ Tryd.underlying9 Tryd.underlying58 Tryd.underlying5
  have c0 : Wb.cell? ⟨w.heap.size, 0, none⟩ = some (.int .u8 48) := by rw [hWb]; exact Lib.bytesWorld_cell w _ _ 0 (by decide)
  have c1 : Wb.cell? ⟨w.heap.size, 1, none⟩ = some (.int .u8 98) := by rw [hWb]; exact Lib.bytesWorld_cell w _ _ 1 (by decide)
  have bb : Below w.heap.size w Wb := by rw [hWb]; exact Go.Joins.below_bytesWorld _ _ _ _ (Nat.le_refl _)
  rw [← hWb, show (⟨#[48, 98]⟩ : ByteArray).size = 2 from rfl] at hcv
  have hcg := grownCap_ge w 2 0 5
  generalize grownCap w 2 0 5 = cap at hcv hcg
  clear hWb
  go_enter Tryd.func97, Tryd.ntmps97
  go_wp2
  refine wp_loop_rounds 3 ?_
  rw [rounds_succ]
  go_wp2
  rw [rounds_succ]
  go_wp2
  rw [rounds_succ]
  go_wp2
  go_ret2
  exact ⟨rfl, bb⟩
set_option maxHeartbeats 4000000 in
set_option maxRecDepth 100000 in
theorem parse_12 (w : World) : Calls Tryd.prog 97 #[.string ⟨#[48, 99]⟩, .int .i64 16, .int .i64 8] w fun e w' => e = .returned (.tuple #[.int .u64 12, .nilIface]) ∧ Below w.heap.size w w' := by
  obtain ⟨Wb, hWb⟩ : ∃ Wb, Wb = Lib.bytesWorld w 5 ⟨#[48, 99]⟩ := ⟨_, rfl⟩
  have hcv := Lib.run_convert_string_bytes (P := Tryd.prog) w 9 58 5 ⟨#[48, 99]⟩ Tryd.underlying9 Tryd.underlying58 Tryd.underlying5
  have c0 : Wb.cell? ⟨w.heap.size, 0, none⟩ = some (.int .u8 48) := by rw [hWb]; exact Lib.bytesWorld_cell w _ _ 0 (by decide)
  have c1 : Wb.cell? ⟨w.heap.size, 1, none⟩ = some (.int .u8 99) := by rw [hWb]; exact Lib.bytesWorld_cell w _ _ 1 (by decide)
  have bb : Below w.heap.size w Wb := by rw [hWb]; exact Go.Joins.below_bytesWorld _ _ _ _ (Nat.le_refl _)
  rw [← hWb, show (⟨#[48, 99]⟩ : ByteArray).size = 2 from rfl] at hcv
  have hcg := grownCap_ge w 2 0 5
  generalize grownCap w 2 0 5 = cap at hcv hcg
  clear hWb
  go_enter Tryd.func97, Tryd.ntmps97
  go_wp2
  refine wp_loop_rounds 3 ?_
  rw [rounds_succ]
  go_wp2
  rw [rounds_succ]
  go_wp2
  rw [rounds_succ]
  go_wp2
  go_ret2
  exact ⟨rfl, bb⟩
set_option maxHeartbeats 4000000 in
set_option maxRecDepth 100000 in
theorem parse_13 (w : World) : Calls Tryd.prog 97 #[.string ⟨#[48, 100]⟩, .int .i64 16, .int .i64 8] w fun e w' => e = .returned (.tuple #[.int .u64 13, .nilIface]) ∧ Below w.heap.size w w' := by
  obtain ⟨Wb, hWb⟩ : ∃ Wb, Wb = Lib.bytesWorld w 5 ⟨#[48, 100]⟩ := ⟨_, rfl⟩
  have hcv := Lib.run_convert_string_bytes (P := Tryd.prog) w 9 58 5 ⟨#[48, 100]⟩ Tryd.underlying9 Tryd.underlying58 Tryd.underlying5
  have c0 : Wb.cell? ⟨w.heap.size, 0, none⟩ = some (.int .u8 48) := by rw [hWb]; exact Lib.bytesWorld_cell w _ _ 0 (by decide)
  have c1 : Wb.cell? ⟨w.heap.size, 1, none⟩ = some (.int .u8 100) := by rw [hWb]; exact Lib.bytesWorld_cell w _ _ 1 (by decide)
  have bb : Below w.heap.size w Wb := by rw [hWb]; exact Go.Joins.below_bytesWorld _ _ _ _ (Nat.le_refl _)
  rw [← hWb, show (⟨#[48, 100]⟩ : ByteArray).size = 2 from rfl] at hcv
  have hcg := grownCap_ge w 2 0 5
  generalize grownCap w 2 0 5 = cap at hcv hcg
  clear hWb
  go_enter Tryd.func97, Tryd.ntmps97
  go_wp2
  refine wp_loop_rounds 3 ?_
  rw [rounds_succ]
  go_wp2
  rw [rounds_succ]
  go_wp2
  rw [rounds_succ]
  go_wp2
  go_ret2
  exact ⟨rfl, bb⟩
set_option maxHeartbeats 4000000 in
set_option maxRecDepth 100000 in
theorem parse_14 (w : World) : Calls Tryd.prog 97 #[.string ⟨#[48, 101]⟩, .int .i64 16, .int .i64 8] w fun e w' => e = .returned (.tuple #[.int .u64 14, .nilIface]) ∧ Below w.heap.size w w' := by
  obtain ⟨Wb, hWb⟩ : ∃ Wb, Wb = Lib.bytesWorld w 5 ⟨#[48, 101]⟩ := ⟨_, rfl⟩
  have hcv := Lib.run_convert_string_bytes (P := Tryd.prog) w 9 58 5 ⟨#[48, 101]⟩ Tryd.underlying9 Tryd.underlying58 Tryd.underlying5
  have c0 : Wb.cell? ⟨w.heap.size, 0, none⟩ = some (.int .u8 48) := by rw [hWb]; exact Lib.bytesWorld_cell w _ _ 0 (by decide)
  have c1 : Wb.cell? ⟨w.heap.size, 1, none⟩ = some (.int .u8 101) := by rw [hWb]; exact Lib.bytesWorld_cell w _ _ 1 (by decide)
  have bb : Below w.heap.size w Wb := by rw [hWb]; exact Go.Joins.below_bytesWorld _ _ _ _ (Nat.le_refl _)
  rw [← hWb, show (⟨#[48, 101]⟩ : ByteArray).size = 2 from rfl] at hcv
  have hcg := grownCap_ge w 2 0 5
  generalize grownCap w 2 0 5 = cap at hcv hcg
  clear hWb
  go_enter Tryd.func97, Tryd.ntmps97
  go_wp2
  refine wp_loop_rounds 3 ?_
  rw [rounds_succ]
  go_wp2
  rw [rounds_succ]
  go_wp2
  rw [rounds_succ]
  go_wp2
  go_ret2
  exact ⟨rfl, bb⟩
set_option maxHeartbeats 4000000 in
set_option maxRecDepth 100000 in
theorem parse_15 (w : World) : Calls Tryd.prog 97 #[.string ⟨#[48, 102]⟩, .int .i64 16, .int .i64 8] w fun e w' => e = .returned (.tuple #[.int .u64 15, .nilIface]) ∧ Below w.heap.size w w' := by
  obtain ⟨Wb, hWb⟩ : ∃ Wb, Wb = Lib.bytesWorld w 5 ⟨#[48, 102]⟩ := ⟨_, rfl⟩
  have hcv := Lib.run_convert_string_bytes (P := Tryd.prog) w 9 58 5 ⟨#[48, 102]⟩ Tryd.underlying9 Tryd.underlying58 Tryd.underlying5
  have c0 : Wb.cell? ⟨w.heap.size, 0, none⟩ = some (.int .u8 48) := by rw [hWb]; exact Lib.bytesWorld_cell w _ _ 0 (by decide)
  have c1 : Wb.cell? ⟨w.heap.size, 1, none⟩ = some (.int .u8 102) := by rw [hWb]; exact Lib.bytesWorld_cell w _ _ 1 (by decide)
  have bb : Below w.heap.size w Wb := by rw [hWb]; exact Go.Joins.below_bytesWorld _ _ _ _ (Nat.le_refl _)
  rw [← hWb, show (⟨#[48, 102]⟩ : ByteArray).size = 2 from rfl] at hcv
  have hcg := grownCap_ge w 2 0 5
  generalize grownCap w 2 0 5 = cap at hcv hcg
  clear hWb
  go_enter Tryd.func97, Tryd.ntmps97
  go_wp2
  refine wp_loop_rounds 3 ?_
  rw [rounds_succ]
  go_wp2
  rw [rounds_succ]
  go_wp2
  rw [rounds_succ]
  go_wp2
  go_ret2
  exact ⟨rfl, bb⟩
set_option maxHeartbeats 4000000 in
set_option maxRecDepth 100000 in
theorem parse_16 (w : World) : Calls Tryd.prog 97 #[.string ⟨#[49, 48]⟩, .int .i64 16, .int .i64 8] w fun e w' => e = .returned (.tuple #[.int .u64 16, .nilIface]) ∧ Below w.heap.size w w' := by
  obtain ⟨Wb, hWb⟩ : ∃ Wb, Wb = Lib.bytesWorld w 5 ⟨#[49, 48]⟩ := ⟨_, rfl⟩
  have hcv := Lib.run_convert_string_bytes (P := Tryd.prog) w 9 58 5 ⟨#[49, 48]⟩ Tryd.underlying9 Tryd.underlying58 Tryd.underlying5
  have c0 : Wb.cell? ⟨w.heap.size, 0, none⟩ = some (.int .u8 49) := by rw [hWb]; exact Lib.bytesWorld_cell w _ _ 0 (by decide)
  have c1 : Wb.cell? ⟨w.heap.size, 1, none⟩ = some (.int .u8 48) := by rw [hWb]; exact Lib.bytesWorld_cell w _ _ 1 (by decide)
  have bb : Below w.heap.size w Wb := by rw [hWb]; exact Go.Joins.below_bytesWorld _ _ _ _ (Nat.le_refl _)
  rw [← hWb, show (⟨#[49, 48]⟩ : ByteArray).size = 2 from rfl] at hcv
  have hcg := grownCap_ge w 2 0 5
  generalize grownCap w 2 0 5 = cap at hcv hcg
  clear hWb
  go_enter Tryd.func97, Tryd.ntmps97
  go_wp2
  refine wp_loop_rounds 3 ?_
  rw [rounds_succ]
  go_wp2
  rw [rounds_succ]
  go_wp2
  rw [rounds_succ]
  go_wp2
  go_ret2
  exact ⟨rfl, bb⟩
set_option maxHeartbeats 4000000 in
set_option maxRecDepth 100000 in
theorem parse_17 (w : World) : Calls Tryd.prog 97 #[.string ⟨#[49, 49]⟩, .int .i64 16, .int .i64 8] w fun e w' => e = .returned (.tuple #[.int .u64 17, .nilIface]) ∧ Below w.heap.size w w' := by
  obtain ⟨Wb, hWb⟩ : ∃ Wb, Wb = Lib.bytesWorld w 5 ⟨#[49, 49]⟩ := ⟨_, rfl⟩
  have hcv := Lib.run_convert_string_bytes (P := Tryd.prog) w 9 58 5 ⟨#[49, 49]⟩ Tryd.underlying9 Tryd.underlying58 Tryd.underlying5
  have c0 : Wb.cell? ⟨w.heap.size, 0, none⟩ = some (.int .u8 49) := by rw [hWb]; exact Lib.bytesWorld_cell w _ _ 0 (by decide)
  have c1 : Wb.cell? ⟨w.heap.size, 1, none⟩ = some (.int .u8 49) := by rw [hWb]; exact Lib.bytesWorld_cell w _ _ 1 (by decide)
  have bb : Below w.heap.size w Wb := by rw [hWb]; exact Go.Joins.below_bytesWorld _ _ _ _ (Nat.le_refl _)
  rw [← hWb, show (⟨#[49, 49]⟩ : ByteArray).size = 2 from rfl] at hcv
  have hcg := grownCap_ge w 2 0 5
  generalize grownCap w 2 0 5 = cap at hcv hcg
  clear hWb
  go_enter Tryd.func97, Tryd.ntmps97
  go_wp2
  refine wp_loop_rounds 3 ?_
  rw [rounds_succ]
  go_wp2
  rw [rounds_succ]
  go_wp2
  rw [rounds_succ]
  go_wp2
  go_ret2
  exact ⟨rfl, bb⟩

end Go.Proofs.YtcnbbmgclphfdaaDoor
