/- The library reads the two digits of base 16 of a byte, part 0. -/
import Derived.Test.YtcnbbmgclphfdaaDoorRpByte
import Derived.Lib.ConvBytes
import Derived.Lib.SmallJoins
namespace Go.Proofs.YtcnbbmgclphfdaaDoor
open Go.RowKit Go.Sort

set_option maxHeartbeats 4000000 in
set_option maxRecDepth 100000 in
theorem parse_0 (w : World) : Calls Tryd.prog 97 #[.string ⟨#[48, 48]⟩, .int .i64 16, .int .i64 8] w fun e w' => e = .returned (.tuple #[.int .u64 0, .nilIface]) ∧ Below w.heap.size w w' := by
  obtain ⟨Wb, hWb⟩ : ∃ Wb, Wb = Lib.bytesWorld w 5 ⟨#[48, 48]⟩ := ⟨_, rfl⟩
  have hcv := Lib.run_convert_string_bytes (P := Tryd.prog) w 9 58 5 ⟨#[48, 48]⟩ Tryd.underlying9 Tryd.underlying58 Tryd.underlying5
  have c0 : Wb.cell? ⟨w.heap.size, 0, none⟩ = some (.int .u8 48) := by rw [hWb]; exact Lib.bytesWorld_cell w _ _ 0 (by decide)
  have c1 : Wb.cell? ⟨w.heap.size, 1, none⟩ = some (.int .u8 48) := by rw [hWb]; exact Lib.bytesWorld_cell w _ _ 1 (by decide)
  have bb : Below w.heap.size w Wb := by rw [hWb]; exact Go.Joins.below_bytesWorld _ _ _ _ (Nat.le_refl _)
  rw [← hWb, show (⟨#[48, 48]⟩ : ByteArray).size = 2 from rfl] at hcv
  have hcg := grownCap_ge w 2 0 5
  generalize grownCap w 2 0 5 = cap at hcv hcg
  clear hWb
  go_enter Tryd.func97, Tryd.ntmps97
  go_wp2
  refine wp_loop_rounds 3 ?_
  rw [rounds_succ]
  go_wp2
  rw [rounds_succ]
  go_wp2
  rw [rounds_succ]
  go_wp2
  go_ret2
  exact ⟨rfl, bb⟩
set_option maxHeartbeats 4000000 in
set_option maxRecDepth 100000 in
theorem parse_1 (w : World) : Calls Tryd.prog 97 #[.string ⟨#[48, 49]⟩, .int .i64 16, .int .i64 8] w fun e w' => e = .returned (.tuple #[.int .u64 1, .nilIface]) ∧ Below w.heap.size w w' := by
  obtain ⟨Wb, hWb⟩ : ∃ Wb, Wb = Lib.bytesWorld w 5 ⟨#[48, 49]⟩ := ⟨_, rfl⟩
  have hcv := Lib.run_convert_string_bytes (P := Tryd.prog) w 9 58 5 ⟨#[48, 49]⟩ Tryd.underlying9 Tryd.underlying58 Tryd.underlying5
  have c0 : Wb.cell? ⟨w.heap.size, 0, none⟩ = some (.int .u8 48) := by rw [hWb]; exact Lib.bytesWorld_cell w _ _ 0 (by decide)
  have c1 : Wb.cell? ⟨w.heap.size, 1, none⟩ = some (.int .u8 49) := by rw [hWb]; exact Lib.bytesWorld_cell w _ _ 1 (by decide)
  have bb : Below w.heap.size w Wb := by rw [hWb]; exact Go.Joins.below_bytesWorld _ _ _ _ (Nat.le_refl _)
  rw [← hWb, show (⟨#[48, 49]⟩ : ByteArray).size = 2 from rfl] at hcv
  have hcg := grownCap_ge w 2 0 5
  generalize grownCap w 2 0 5 = cap at hcv hcg
  clear hWb
  go_enter Tryd.func97, Tryd.ntmps97
  go_wp2
  refine wp_loop_rounds 3 ?_
  rw [rounds_succ]
  go_wp2
  rw [rounds_succ]
  go_wp2
  rw [rounds_succ]
  go_wp2
  go_ret2
  exact ⟨rfl, bb⟩
set_option maxHeartbeats 4000000 in
set_option maxRecDepth 100000 in
theorem parse_2 (w : World) : Calls Tryd.prog 97 #[.string ⟨#[48, 50]⟩, .int .i64 16, .int .i64 8] w fun e w' => e = .returned (.tuple #[.int .u64 2, .nilIface]) ∧ Below w.heap.size w w' := by
  obtain ⟨Wb, hWb⟩ : ∃ Wb, Wb = Lib.bytesWorld w 5 ⟨#[48, 50]⟩ := ⟨_, rfl⟩
  have hcv := Lib.run_convert_string_bytes (P := Tryd.prog) w 9 58 5 ⟨#[48, 50]⟩ Tryd.underlying9 Tryd.underlying58 Tryd.underlying5
  have c0 : Wb.cell? ⟨w.heap.size, 0, none⟩ = some (.int .u8 48) := by rw [hWb]; exact Lib.bytesWorld_cell w _ _ 0 (by decide)
  have c1 : Wb.cell? ⟨w.heap.size, 1, none⟩ = some (.int .u8 50) := by rw [hWb]; exact Lib.bytesWorld_cell w _ _ 1 (by decide)
  have bb : Below w.heap.size w Wb := by rw [hWb]; exact Go.Joins.below_bytesWorld _ _ _ _ (Nat.le_refl _)
  rw [← hWb, show (⟨#[48, 50]⟩ : ByteArray).size = 2 from rfl] at hcv
  have hcg := grownCap_ge w 2 0 5
  generalize grownCap w 2 0 5 = cap at hcv hcg
  clear hWb
  go_enter Tryd.func97, Tryd.ntmps97
  go_wp2
  refine wp_loop_rounds 3 ?_
  rw [rounds_succ]
  go_wp2
  rw [rounds_succ]
  go_wp2
  rw [rounds_succ]
  go_wp2
  go_ret2
  exact ⟨rfl, bb⟩
set_option maxHeartbeats 4000000 in
set_option maxRecDepth 100000 in
theorem parse_3 (w : World) : Calls Tryd.prog 97 #[.string ⟨#[48, 51]⟩, .int .i64 16, .int .i64 8] w fun e w' => e = .returned (.tuple #[.int .u64 3, .nilIface]) ∧ Below w.heap.size w w' := by
  obtain ⟨Wb, hWb⟩ : ∃ Wb, Wb = Lib.bytesWorld w 5 ⟨#[48, 51]⟩ := ⟨_, rfl⟩
  have hcv := Lib.run_convert_string_bytes (P := Tryd.prog) w 9 58 5 ⟨#[48, 51]⟩ Tryd.underlying9 Tryd.underlying58 Tryd.underlying5
  have c0 : Wb.cell? ⟨w.heap.size, 0, none⟩ = some (.int .u8 48) := by rw [hWb]; exact Lib.bytesWorld_cell w _ _ 0 (by decide)
  have c1 : Wb.cell? ⟨w.heap.size, 1, none⟩ = some (.int .u8 51) := by rw [hWb]; exact Lib.bytesWorld_cell w _ _ 1 (by decide)
  have bb : Below w.heap.size w Wb := by rw [hWb]; exact Go.Joins.below_bytesWorld _ _ _ _ (Nat.le_refl _)
  rw [← hWb, show (⟨#[48, 51]⟩ : ByteArray).size = 2 from rfl] at hcv
  have hcg := grownCap_ge w 2 0 5
  generalize grownCap w 2 0 5 = cap at hcv hcg
  clear hWb
  go_enter Tryd.func97, Tryd.ntmps97
  go_wp2
  refine wp_loop_rounds 3 ?_
  rw [rounds_succ]
  go_wp2
  rw [rounds_succ]
  go_wp2
  rw [rounds_succ]
  go_wp2
  go_ret2
  exact ⟨rfl, bb⟩
set_option maxHeartbeats 4000000 in
set_option maxRecDepth 100000 in
theorem parse_4 (w : World) : Calls Tryd.prog 97 #[.string ⟨#[48, 52]⟩, .int .i64 16, .int .i64 8] w fun e w' => e = .returned (.tuple #[.int .u64 4, .nilIface]) ∧ Below w.heap.size w w' := by
  obtain ⟨Wb, hWb⟩ : ∃ Wb, Wb = Lib.bytesWorld w 5 ⟨#[48, 52]⟩ := ⟨_, rfl⟩
  have hcv := Lib.run_convert_string_bytes (P := Tryd.prog) w 9 58 5 ⟨#[48, 52]⟩ Tryd.underlying9 Tryd.underlying58 Tryd.underlying5
  have c0 : Wb.cell? ⟨w.heap.size, 0, none⟩ = some (.int .u8 48) := by rw [hWb]; exact Lib.bytesWorld_cell w _ _ 0 (by decide)
  have c1 : Wb.cell? ⟨w.heap.size, 1, none⟩ = some (.int .u8 52) := by rw [hWb]; exact Lib.bytesWorld_cell w _ _ 1 (by decide)
  have bb : Below w.heap.size w Wb := by rw [hWb]; exact Go.Joins.below_bytesWorld _ _ _ _ (Nat.le_refl _)
  rw [← hWb, show (⟨#[48, 52]⟩ : ByteArray).size = 2 from rfl] at hcv
  have hcg := grownCap_ge w 2 0 5
  generalize grownCap w 2 0 5 = cap at hcv hcg
  clear hWb
  go_enter Tryd.func97, Tryd.ntmps97
  go_wp2
  refine wp_loop_rounds 3 ?_
  rw [rounds_succ]
  go_wp2
  rw [rounds_succ]
  go_wp2
  rw [rounds_succ]
  go_wp2
  go_ret2
  exact ⟨rfl, bb⟩
set_option maxHeartbeats 4000000 in
set_option maxRecDepth 100000 in
theorem parse_5 (w : World) : Calls Tryd.prog 97 #[.string ⟨#[48, 53]⟩, .int .i64 16, .int .i64 8] w fun e w' => e = .returned (.tuple #[.int .u64 5, .nilIface]) ∧ Below w.heap.size w w' := by
  obtain ⟨Wb, hWb⟩ : ∃ Wb, Wb = Lib.bytesWorld w 5 ⟨#[48, 53]⟩ := ⟨_, rfl⟩
  have hcv := Lib.run_convert_string_bytes (P := Tryd.prog) w 9 58 5 ⟨#[48, 53]⟩ Tryd.underlying9 Tryd.underlying58 Tryd.underlying5
  have c0 : Wb.cell? ⟨w.heap.size, 0, none⟩ = some (.int .u8 48) := by rw [hWb]; exact Lib.bytesWorld_cell w _ _ 0 (by decide)
  have c1 : Wb.cell? ⟨w.heap.size, 1, none⟩ = some (.int .u8 53) := by rw [hWb]; exact Lib.bytesWorld_cell w _ _ 1 (by decide)
  have bb : Below w.heap.size w Wb := by rw [hWb]; exact Go.Joins.below_bytesWorld _ _ _ _ (Nat.le_refl _)
  rw [← hWb, show (⟨#[48, 53]⟩ : ByteArray).size = 2 from rfl] at hcv
  have hcg := grownCap_ge w 2 0 5
  generalize grownCap w 2 0 5 = cap at hcv hcg
  clear hWb
  go_enter Tryd.func97, Tryd.ntmps97
  go_wp2
  refine wp_loop_rounds 3 ?_
  rw [rounds_succ]
  go_wp2
  rw [rounds_succ]
  go_wp2
  rw [rounds_succ]
  go_wp2
  go_ret2
  exact ⟨rfl, bb⟩
set_option maxHeartbeats 4000000 in
set_option maxRecDepth 100000 in
theorem parse_6 (w : World) : Calls Tryd.prog 97 #[.string ⟨#[48, 54]⟩, .int .i64 16, .int .i64 8] w fun e w' => e = .returned (.tuple #[.int .u64 6, .nilIface]) ∧ Below w.heap.size w w' := by
  obtain ⟨Wb, hWb⟩ : ∃ Wb, Wb = Lib.bytesWorld w 5 ⟨#[48, 54]⟩ := ⟨_, rfl⟩
  have hcv := Lib.run_convert_string_bytes (P := Tryd.prog) w 9 58 5 ⟨#[48, 54]⟩ Tryd.underlying9 Tryd.underlying58 Tryd.underlying5
  have c0 : Wb.cell? ⟨w.heap.size, 0, none⟩ = some (.int .u8 48) := by rw [hWb]; exact Lib.bytesWorld_cell w _ _ 0 (by decide)
  have c1 : Wb.cell? ⟨w.heap.size, 1, none⟩ = some (.int .u8 54) := by rw [hWb]; exact Lib.bytesWorld_cell w _ _ 1 (by decide)
  have bb : Below w.heap.size w Wb := by rw [hWb]; exact Go.Joins.below_bytesWorld _ _ _ _ (Nat.le_refl _)
  rw [← hWb, show (⟨#[48, 54]⟩ : ByteArray).size = 2 from rfl] at hcv
  have hcg := grownCap_ge w 2 0 5
  generalize grownCap w 2 0 5 = cap at hcv hcg
  clear hWb
  go_enter Tryd.func97, Tryd.ntmps97
  go_wp2
  refine wp_loop_rounds 3 ?_
  rw [rounds_succ]
  go_wp2
  rw [rounds_succ]
  go_wp2
  rw [rounds_succ]
  go_wp2
  go_ret2
  exact ⟨rfl, bb⟩
set_option maxHeartbeats 4000000 in
set_option maxRecDepth 100000 in
theorem parse_7 (w : World) : Calls Tryd.prog 97 #[.string ⟨#[48, 55]⟩, .int .i64 16, .int .i64 8] w fun e w' => e = .returned (.tuple #[.int .u64 7, .nilIface]) ∧ Below w.heap.size w w' := by
  obtain ⟨Wb, hWb⟩ : ∃ Wb, Wb = Lib.bytesWorld w 5 ⟨#[48, 55]⟩ := ⟨_, rfl⟩
  have hcv := Lib.run_convert_string_bytes (P := Tryd.prog) w 9 58 5 ⟨#[48, 55]⟩ Tryd.underlying9 Tryd.underlying58 Tryd.underlying5
  have c0 : Wb.cell? ⟨w.heap.size, 0, none⟩ = some (.int .u8 48) := by rw [hWb]; exact Lib.bytesWorld_cell w _ _ 0 (by decide)
  have c1 : Wb.cell? ⟨w.heap.size, 1, none⟩ = some (.int .u8 55) := by rw [hWb]; exact Lib.bytesWorld_cell w _ _ 1 (by decide)
  have bb : Below w.heap.size w Wb := by rw [hWb]; exact Go.Joins.below_bytesWorld _ _ _ _ (Nat.le_refl _)
  rw [← hWb, show (⟨#[48, 55]⟩ : ByteArray).size = 2 from rfl] at hcv
  have hcg := grownCap_ge w 2 0 5
  generalize grownCap w 2 0 5 = cap at hcv hcg
  clear hWb
  go_enter Tryd.func97, Tryd.ntmps97
  go_wp2
  refine wp_loop_rounds 3 ?_
  rw [rounds_succ]
  go_wp2
  rw [rounds_succ]
  go_wp2
  rw [rounds_succ]
  go_wp2
  go_ret2
  exact ⟨rfl, bb⟩
set_option maxHeartbeats 4000000 in
set_option maxRecDepth 100000 in
theorem parse_8 (w : World) : Calls Tryd.prog 97 #[.string ⟨#[48, 56]⟩, .int .i64 16, .int .i64 8] w fun e w' => e = .returned (.tuple #[.int .u64 8, .nilIface]) ∧ Below w.heap.size w w' := by
  obtain ⟨Wb, hWb⟩ : ∃ Wb, Wb = Lib.bytesWorld w 5 ⟨#[48, 56]⟩ := ⟨_, rfl⟩
  have hcv := Lib.run_convert_string_bytes (P := Tryd.prog) w 9 58 5 ⟨#[48, 56]⟩ Tryd.underlying9 Tryd.underlying58 Tryd.underlying5
  have c0 : Wb.cell? ⟨w.heap.size, 0, none⟩ = some (.int .u8 48) := by rw [hWb]; exact Lib.bytesWorld_cell w _ _ 0 (by decide)
  have c1 : Wb.cell? ⟨w.heap.size, 1, none⟩ = some (.int .u8 56) := by rw [hWb]; exact Lib.bytesWorld_cell w _ _ 1 (by decide)
  have bb : Below w.heap.size w Wb := by rw [hWb]; exact Go.Joins.below_bytesWorld _ _ _ _ (Nat.le_refl _)
  rw [← hWb, show (⟨#[48, 56]⟩ : ByteArray).size = 2 from rfl] at hcv
  have hcg := grownCap_ge w 2 0 5
  generalize grownCap w 2 0 5 = cap at hcv hcg
  clear hWb
  go_enter Tryd.func97, Tryd.ntmps97
  go_wp2
  refine wp_loop_rounds 3 ?_
  rw [rounds_succ]
  go_wp2
  rw [rounds_succ]
  go_wp2
  rw [rounds_succ]
  go_wp2
  go_ret2
  exact ⟨rfl, bb⟩

end Go.Proofs.YtcnbbmgclphfdaaDoor
