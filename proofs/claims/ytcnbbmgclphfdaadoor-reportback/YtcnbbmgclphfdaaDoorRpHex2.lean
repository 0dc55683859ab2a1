/- The library reads the two digits of base 16 of a byte, part 2. -/
import Derived.Test.YtcnbbmgclphfdaaDoorRpByte
import Derived.Lib.ConvBytes
import Derived.Lib.SmallJoins
namespace Go.Proofs.YtcnbbmgclphfdaaDoor
open Go.RowKit Go.Sort

set_option maxHeartbeats 4000000 in
set_option maxRecDepth 100000 in
theorem parse_18 (w : World) : Calls Tryd.prog 97 #[.string ⟨#[49, 50]⟩, .int .i64 16, .int .i64 8] w fun e w' => e = .returned (.tuple #[.int .u64 18, .nilIface]) ∧ Below w.heap.size w w' := by
  obtain ⟨Wb, hWb⟩ : ∃ Wb, Wb = Lib.bytesWorld w 5 ⟨#[49, 50]⟩ := ⟨_, rfl⟩
  have hcv := Lib.run_convert_string_bytes (P := Tryd.prog) w 9 58 5 ⟨#[49, 50]⟩ Tryd.underlying9 Tryd.underlying58 Tryd.underlying5
  have c0 : Wb.cell? ⟨w.heap.size, 0, none⟩ = some (.int .u8 49) := by rw [hWb]; exact Lib.bytesWorld_cell w _ _ 0 (by decide)
  have c1 : Wb.cell? ⟨w.heap.size, 1, none⟩ = some (.int .u8 50) := by rw [hWb]; exact Lib.bytesWorld_cell w _ _ 1 (by decide)
  have bb : Below w.heap.size w Wb := by rw [hWb]; exact Go.Joins.below_bytesWorld _ _ _ _ (Nat.le_refl _)
  rw [← hWb, show (⟨#[49, 50]⟩ : ByteArray).size = 2 from rfl] at hcv
  have hcg := grownCap_ge w 2 0 5
  generalize grownCap w 2 0 5 = cap at hcv hcg
  clear hWb
  go_enter Tryd.func97, Tryd.ntmps97
  go_wp2
  refine wp_loop_rounds 3 ?_
  rw [rounds_succ]
  go_wp2
  rw [rounds_succ]
  go_wp2
  rw [rounds_succ]
  go_wp2
  go_ret2
  exact ⟨rfl, bb⟩
set_option maxHeartbeats 4000000 in
set_option maxRecDepth 100000 in
theorem parse_19 (w : World) : Calls Tryd.prog 97 #[.string ⟨#[49, 51]⟩, .int .i64 16, .int .i64 8] w fun e w' => e = .returned (.tuple #[.int .u64 19, .nilIface]) ∧ Below w.heap.size w w' := by
  obtain ⟨Wb, hWb⟩ : ∃ Wb, Wb = Lib.bytesWorld w 5 ⟨#[49, 51]⟩ := ⟨_, rfl⟩
  have hcv := Lib.run_convert_string_bytes (P := Tryd.prog) w 9 58 5 ⟨#[49, 51]⟩ Tryd.underlying9 Tryd.underlying58 Tryd.underlying5
  have c0 : Wb.cell? ⟨w.heap.size, 0, none⟩ = some (.int .u8 49) := by rw [hWb]; exact Lib.bytesWorld_cell w _ _ 0 (by decide)
  have c1 : Wb.cell? ⟨w.heap.size, 1, none⟩ = some (.int .u8 51) := by rw [hWb]; exact Lib.bytesWorld_cell w _ _ 1 (by decide)
  have bb : Below w.heap.size w Wb := by rw [hWb]; exact Go.Joins.below_bytesWorld _ _ _ _ (Nat.le_refl _)
  rw [← hWb, show (⟨#[49, 51]⟩ : ByteArray).size = 2 from rfl] at hcv
  have hcg := grownCap_ge w 2 0 5
  generalize grownCap w 2 0 5 = cap at hcv hcg
  clear hWb
  go_enter Tryd.func97, Tryd.ntmps97
  go_wp2
  refine wp_loop_rounds 3 ?_
  rw [rounds_succ]
  go_wp2
  rw [rounds_succ]
  go_wp2
  rw [rounds_succ]
  go_wp2
  go_ret2
  exact ⟨rfl, bb⟩
set_option maxHeartbeats 4000000 in
set_option maxRecDepth 100000 in
theorem parse_20 (w : World) : Calls Tryd.prog 97 #[.string ⟨#[49, 52]⟩, .int .i64 16, .int .i64 8] w fun e w' => e = .returned (.tuple #[.int .u64 20, .nilIface]) ∧ Below w.heap.size w w' := by
  obtain ⟨Wb, hWb⟩ : ∃ Wb, Wb = Lib.bytesWorld w 5 ⟨#[49, 52]⟩ := ⟨_, rfl⟩
  have hcv := Lib.run_convert_string_bytes (P := Tryd.prog) w 9 58 5 ⟨#[49, 52]⟩ Tryd.underlying9 Tryd.underlying58 Tryd.underlying5
  have c0 : Wb.cell? ⟨w.heap.size, 0, none⟩ = some (.int .u8 49) := by rw [hWb]; exact Lib.bytesWorld_cell w _ _ 0 (by decide)
  have c1 : Wb.cell? ⟨w.heap.size, 1, none⟩ = some (.int .u8 52) := by rw [hWb]; exact Lib.bytesWorld_cell w _ _ 1 (by decide)
  have bb : Below w.heap.size w Wb := by rw [hWb]; exact Go.Joins.below_bytesWorld _ _ _ _ (Nat.le_refl _)
  rw [← hWb, show (⟨#[49, 52]⟩ : ByteArray).size = 2 from rfl] at hcv
  have hcg := grownCap_ge w 2 0 5
  generalize grownCap w 2 0 5 = cap at hcv hcg
  clear hWb
  go_enter Tryd.func97, Tryd.ntmps97
  go_wp2
  refine wp_loop_rounds 3 ?_
  rw [rounds_succ]
  go_wp2
  rw [rounds_succ]
  go_wp2
  rw [rounds_succ]
  go_wp2
  go_ret2
  exact ⟨rfl, bb⟩
set_option maxHeartbeats 4000000 in
set_option maxRecDepth 100000 in
theorem parse_21 (w : World) : Calls Tryd.prog 97 #[.string ⟨#[49, 53]⟩, .int .i64 16, .int .i64 8] w fun e w' => e = .returned (.tuple #[.int .u64 21, .nilIface]) ∧ Below w.heap.size w w' := by
  obtain ⟨Wb, hWb⟩ : ∃ Wb, Wb = Lib.bytesWorld w 5 ⟨#[49, 53]⟩ := ⟨_, rfl⟩
  have hcv := Lib.run_convert_string_bytes (P := Tryd.prog) w 9 58 5 ⟨#[49, 53]⟩ Tryd.underlying9 Tryd.underlying58 Tryd.underlying5
  have c0 : Wb.cell? ⟨w.heap.size, 0, none⟩ = some (.int .u8 49) := by rw [hWb]; exact Lib.bytesWorld_cell w _ _ 0 (by decide)
  have c1 : Wb.cell? ⟨w.heap.size, 1, none⟩ = some (.int .u8 53) := by rw [hWb]; exact Lib.bytesWorld_cell w _ _ 1 (by decide)
  have bb : Below w.heap.size w Wb := by rw [hWb]; exact Go.Joins.below_bytesWorld _ _ _ _ (Nat.le_refl _)
  rw [← hWb, show (⟨#[49, 53]⟩ : ByteArray).size = 2 from rfl] at hcv
  have hcg := grownCap_ge w 2 0 5
  generalize grownCap w 2 0 5 = cap at hcv hcg
  clear hWb
  go_enter Tryd.func97, Tryd.ntmps97
  go_wp2
  refine wp_loop_rounds 3 ?_
  rw [rounds_succ]
  go_wp2
  rw [rounds_succ]
  go_wp2
  rw [rounds_succ]
  go_wp2
  go_ret2
  exact ⟨rfl, bb⟩
set_option maxHeartbeats 4000000 in
set_option maxRecDepth 100000 in
theorem parse_22 (w : World) : Calls Tryd.prog 97 #[.string ⟨#[49, 54]⟩, .int .i64 16, .int .i64 8] w fun e w' => e = .returned (.tuple #[.int .u64 22, .nilIface]) ∧ Below w.heap.size w w' := by
  obtain ⟨Wb, hWb⟩ : ∃ Wb, Wb = Lib.bytesWorld w 5 ⟨#[49, 54]⟩ := ⟨_, rfl⟩
  have hcv := Lib.run_convert_string_bytes (P := Tryd.prog) w 9 58 5 ⟨#[49, 54]⟩ Tryd.underlying9 Tryd.underlying58 Tryd.underlying5
  have c0 : Wb.cell? ⟨w.heap.size, 0, none⟩ = some (.int .u8 49) := by rw [hWb]; exact Lib.bytesWorld_cell w _ _ 0 (by decide)
  have c1 : Wb.cell? ⟨w.heap.size, 1, none⟩ = some (.int .u8 54) := by rw [hWb]; exact Lib.bytesWorld_cell w _ _ 1 (by decide)
  have bb : Below w.heap.size w Wb := by rw [hWb]; exact Go.Joins.below_bytesWorld _ _ _ _ (Nat.le_refl _)
  rw [← hWb, show (⟨#[49, 54]⟩ : ByteArray).size = 2 from rfl] at hcv
  have hcg := grownCap_ge w 2 0 5
  generalize grownCap w 2 0 5 = cap at hcv hcg
  clear hWb
  go_enter Tryd.func97, Tryd.ntmps97
  go_wp2
  refine wp_loop_rounds 3 ?_
  rw [rounds_succ]
  go_wp2
  rw [rounds_succ]
  go_wp2
  rw [rounds_succ]
  go_wp2
  go_ret2
  exact ⟨rfl, bb⟩
set_option maxHeartbeats 4000000 in
set_option maxRecDepth 100000 in
theorem parse_23 (w : World) : Calls Tryd.prog 97 #[.string ⟨#[49, 55]⟩, .int .i64 16, .int .i64 8] w fun e w' => e = .returned (.tuple #[.int .u64 23, .nilIface]) ∧ Below w.heap.size w w' := by
  obtain ⟨Wb, hWb⟩ : ∃ Wb, Wb = Lib.bytesWorld w 5 ⟨#[49, 55]⟩ := ⟨_, rfl⟩
  have hcv := Lib.run_convert_string_bytes (P := Tryd.prog) w 9 58 5 ⟨#[49, 55]⟩ Tryd.underlying9 Tryd.underlying58 Tryd.underlying5
  have c0 : Wb.cell? ⟨w.heap.size, 0, none⟩ = some (.int .u8 49) := by rw [hWb]; exact Lib.bytesWorld_cell w _ _ 0 (by decide)
  have c1 : Wb.cell? ⟨w.heap.size, 1, none⟩ = some (.int .u8 55) := by rw [hWb]; exact Lib.bytesWorld_cell w _ _ 1 (by decide)
  have bb : Below w.heap.size w Wb := by rw [hWb]; exact Go.Joins.below_bytesWorld _ _ _ _ (Nat.le_refl _)
  rw [← hWb, show (⟨#[49, 55]⟩ : ByteArray).size = 2 from rfl] at hcv
  have hcg := grownCap_ge w 2 0 5
  generalize grownCap w 2 0 5 = cap at hcv hcg
  clear hWb
  go_enter Tryd.func97, Tryd.ntmps97
  go_wp2
  refine wp_loop_rounds 3 ?_
  rw [rounds_succ]
  go_wp2
  rw [rounds_succ]
  go_wp2
  rw [rounds_succ]
  go_wp2
  go_ret2
  exact ⟨rfl, bb⟩
set_option maxHeartbeats 4000000 in
set_option maxRecDepth 100000 in
theorem parse_24 (w : World) : Calls Tryd.prog 97 #[.string ⟨#[49, 56]⟩, .int .i64 16, .int .i64 8] w fun e w' => e = .returned (.tuple #[.int .u64 24, .nilIface]) ∧ Below w.heap.size w w' := by
  obtain ⟨Wb, hWb⟩ : ∃ Wb, Wb = Lib.bytesWorld w 5 ⟨#[49, 56]⟩ := ⟨_, rfl⟩
  have hcv := Lib.run_convert_string_bytes (P := Tryd.prog) w 9 58 5 ⟨#[49, 56]⟩ Tryd.underlying9 Tryd.underlying58 Tryd.underlying5
  have c0 : Wb.cell? ⟨w.heap.size, 0, none⟩ = some (.int .u8 49) := by rw [hWb]; exact Lib.bytesWorld_cell w _ _ 0 (by decide)
  have c1 : Wb.cell? ⟨w.heap.size, 1, none⟩ = some (.int .u8 56) := by rw [hWb]; exact Lib.bytesWorld_cell w _ _ 1 (by decide)
  have bb : Below w.heap.size w Wb := by rw [hWb]; exact Go.Joins.below_bytesWorld _ _ _ _ (Nat.le_refl _)
  rw [← hWb, show (⟨#[49, 56]⟩ : ByteArray).size = 2 from rfl] at hcv
  have hcg := grownCap_ge w 2 0 5
  generalize grownCap w 2 0 5 = cap at hcv hcg
  clear hWb
  go_enter Tryd.func97, Tryd.ntmps97
  go_wp2
  refine wp_loop_rounds 3 ?_
  rw [rounds_succ]
  go_wp2
  rw [rounds_succ]
  go_wp2
  rw [rounds_succ]
  go_wp2
  go_ret2
  exact ⟨rfl, bb⟩
set_option maxHeartbeats 4000000 in
set_option maxRecDepth 100000 in
theorem parse_25 (w : World) : Calls Tryd.prog 97 #[.string ⟨#[49, 57]⟩, .int .i64 16, .int .i64 8] w fun e w' => e = .returned (.tuple #[.int .u64 25, .nilIface]) ∧ Below w.heap.size w w' := by
  obtain ⟨Wb, hWb⟩ : ∃ Wb, Wb = Lib.bytesWorld w 5 ⟨#[49, 57]⟩ := ⟨_, rfl⟩
  have hcv := Lib.run_convert_string_bytes (P := Tryd.prog) w 9 58 5 ⟨#[49, 57]⟩ Tryd.underlying9 Tryd.underlying58 Tryd.underlying5
  have c0 : Wb.cell? ⟨w.heap.size, 0, none⟩ = some (.int .u8 49) := by rw [hWb]; exact Lib.bytesWorld_cell w _ _ 0 (by decide)
  have c1 : Wb.cell? ⟨w.heap.size, 1, none⟩ = some (.int .u8 57) := by rw [hWb]; exact Lib.bytesWorld_cell w _ _ 1 (by decide)
  have bb : Below w.heap.size w Wb := by rw [hWb]; exact Go.Joins.below_bytesWorld _ _ _ _ (Nat.le_refl _)
  rw [← hWb, show (⟨#[49, 57]⟩ : ByteArray).size = 2 from rfl] at hcv
  have hcg := grownCap_ge w 2 0 5
  generalize grownCap w 2 0 5 = cap at hcv hcg
  clear hWb
  go_enter Tryd.func97, Tryd.ntmps97
  go_wp2
  refine wp_loop_rounds 3 ?_
  rw [rounds_succ]
  go_wp2
  rw [rounds_succ]
  go_wp2
  rw [rounds_succ]
  go_wp2
  go_ret2
  exact ⟨rfl, bb⟩
set_option maxHeartbeats 4000000 in
set_option maxRecDepth 100000 in
theorem parse_26 (w : World) : Calls Tryd.prog 97 #[.string ⟨#[49, 97]⟩, .int .i64 16, .int .i64 8] w fun e w' => e = .returned (.tuple #[.int .u64 26, .nilIface]) ∧ Below w.heap.size w w' := by
  obtain ⟨Wb, hWb⟩ : ∃ Wb, Wb = Lib.bytesWorld w 5 ⟨#[49, 97]⟩ := ⟨_, rfl⟩
  have hcv := Lib.run_convert_string_bytes (P := Tryd.prog) w 9 58 5 ⟨#[49, 97]⟩ Tryd.underlying9 Tryd.underlying58 Tryd.underlying5
  have c0 : Wb.cell? ⟨w.heap.size, 0, none⟩ = some (.int .u8 49) := by rw [hWb]; exact Lib.bytesWorld_cell w _ _ 0 (by decide)
  have c1 : Wb.cell? ⟨w.heap.size, 1, none⟩ = some (.int .u8 97) := by rw [hWb]; exact Lib.bytesWorld_cell w _ _ 1 (by decide)
  have bb : Below w.heap.size w Wb := by rw [hWb]; exact Go.Joins.below_bytesWorld _ _ _ _ (Nat.le_refl _)
  rw [← hWb, show (⟨#[49, 97]⟩ : ByteArray).size = 2 from rfl] at hcv
  have hcg := grownCap_ge w 2 0 5
  generalize grownCap w 2 0 5 = cap at hcv hcg
  clear hWb
  go_enter Tryd.func97, Tryd.ntmps97
  go_wp2
  refine wp_loop_rounds 3 ?_
  rw [rounds_succ]
  go_wp2
  rw [rounds_succ]
  go_wp2
  rw [rounds_succ]
  go_wp2
  go_ret2
  exact ⟨rfl, bb⟩

end Go.Proofs.YtcnbbmgclphfdaaDoor
