/- How bytes, texts and values are told, in plain words; contracts of how the program spells a byte and tells a text. -/
import Derived.Test.YtcnbbmgclphfdaaDoorRpMem
import Derived.Test.YtcnbbmgclphfdaaDoorRpDec
import Derived.Test.YtcnbbmgclphfdaaDoorRight
namespace Go.Proofs.YtcnbbmgclphfdaaDoor
open Go.RowKit Go.Sort

def hexD (n : Nat) : UInt8 := if n < 10 then UInt8.ofNat (48 + n) else UInt8.ofNat (87 + n)
def escB (c : UInt8) : Bool := decide (c.toNat < 32) || c.toNat == 92
/-- How a byte of a text is told. -/
def spellL (c : UInt8) : List UInt8 := if c.toNat = 39 then [39, 39] else if escB c = true then [92, hexD (c.toNat / 16), hexD (c.toNat % 16)] else [c]

theorem run_str2 (w : World) (a b : UInt8) : (convert 58 9 (.slice (some ⟨w.heap.size, 0, none⟩) 2 2)).run Tryd.prog (w.alloc (.cells #[.int .u8 (a.toNat : Int), .int .u8 (b.toNat : Int)] 5)).drew = .ok (.string ⟨#[a, b]⟩) (w.alloc (.cells #[.int .u8 (a.toNat : Int), .int .u8 (b.toNat : Int)] 5)).drew := by
  refine run_convert_bytes_back _ 58 9 5 ⟨w.heap.size, 0, none⟩ 2 [a, b] Tryd.underlying58 Tryd.underlying5 Tryd.underlying9 fun j hj => ?_
  rw [show (⟨w.heap.size, 0, none⟩ : Addr).add j = ⟨w.heap.size, j, none⟩ by unfold Addr.add; split <;> simp_all]
  show (w.alloc (.cells #[.int .u8 (a.toNat : Int), .int .u8 (b.toNat : Int)] 5)).cell? ⟨w.heap.size, j, none⟩ = _
  rw [cell_of_row _ w.heap.size j #[.int .u8 (a.toNat : Int), .int .u8 (b.toNat : Int)] 5 (0, 0) (heap_alloc_new w _)]
  have : j = 0 ∨ j = 1 := by simp at hj; omega
  rcases this with rfl | rfl <;> rfl

set_option maxHeartbeats 400000 in
set_option maxRecDepth 100000 in
theorem spelled_0 (w : World) : Calls Tryd.prog 48 #[.int .u8 0] w fun e w' => e = .returned (.string ⟨(spellL 0).toArray⟩) ∧ Below w.heap.size w w' := by
  have hcv := fun a b => run_str2 w a b
  go_enter Tryd.func48, Tryd.ntmps48
  go_wp2_with fail
  go_region
  go_wp2_with fail
  go_ret
  exact ⟨by rfl, ((Below.refl _ _).alloc (Nat.le_refl _) _).trans ⟨rfl, rfl, rfl, Nat.le_refl _, fun _ _ => rfl⟩⟩
set_option maxHeartbeats 400000 in
set_option maxRecDepth 100000 in
theorem spelled_1 (w : World) : Calls Tryd.prog 48 #[.int .u8 1] w fun e w' => e = .returned (.string ⟨(spellL 1).toArray⟩) ∧ Below w.heap.size w w' := by
  have hcv := fun a b => run_str2 w a b
  go_enter Tryd.func48, Tryd.ntmps48
  go_wp2_with fail
  go_region
  go_wp2_with fail
  go_ret
  exact ⟨by rfl, ((Below.refl _ _).alloc (Nat.le_refl _) _).trans ⟨rfl, rfl, rfl, Nat.le_refl _, fun _ _ => rfl⟩⟩
set_option maxHeartbeats 400000 in
set_option maxRecDepth 100000 in
theorem spelled_2 (w : World) : Calls Tryd.prog 48 #[.int .u8 2] w fun e w' => e = .returned (.string ⟨(spellL 2).toArray⟩) ∧ Below w.heap.size w w' := by
  have hcv := fun a b => run_str2 w a b
  go_enter Tryd.func48, Tryd.ntmps48
  go_wp2_with fail
  go_region
  go_wp2_with fail
  go_ret
  exact ⟨by rfl, ((Below.refl _ _).alloc (Nat.le_refl _) _).trans ⟨rfl, rfl, rfl, Nat.le_refl _, fun _ _ => rfl⟩⟩
set_option maxHeartbeats 400000 in
set_option maxRecDepth 100000 in
theorem spelled_3 (w : World) : Calls Tryd.prog 48 #[.int .u8 3] w fun e w' => e = .returned (.string ⟨(spellL 3).toArray⟩) ∧ Below w.heap.size w w' := by
  have hcv := fun a b => run_str2 w a b
  go_enter Tryd.func48, Tryd.ntmps48
  go_wp2_with fail
  go_region
  go_wp2_with fail
  go_ret
  exact ⟨by rfl, ((Below.refl _ _).alloc (Nat.le_refl _) _).trans ⟨rfl, rfl, rfl, Nat.le_refl _, fun _ _ => rfl⟩⟩
set_option maxHeartbeats 400000 in
set_option maxRecDepth 100000 in
theorem spelled_4 (w : World) : Calls Tryd.prog 48 #[.int .u8 4] w fun e w' => e = .returned (.string ⟨(spellL 4).toArray⟩) ∧ Below w.heap.size w w' := by
  have hcv := fun a b => run_str2 w a b
  go_enter Tryd.func48, Tryd.ntmps48
  go_wp2_with fail
  go_region
  go_wp2_with fail
  go_ret
  exact ⟨by rfl, ((Below.refl _ _).alloc (Nat.le_refl _) _).trans ⟨rfl, rfl, rfl, Nat.le_refl _, fun _ _ => rfl⟩⟩
set_option maxHeartbeats 400000 in
set_option maxRecDepth 100000 in
theorem spelled_5 (w : World) : Calls Tryd.prog 48 #[.int .u8 5] w fun e w' => e = .returned (.string ⟨(spellL 5).toArray⟩) ∧ Below w.heap.size w w' := by
  have hcv := fun a b => run_str2 w a b
  go_enter Tryd.func48, Tryd.ntmps48
  go_wp2_with fail
  go_region
  go_wp2_with fail
  go_ret
  exact ⟨by rfl, ((Below.refl _ _).alloc (Nat.le_refl _) _).trans ⟨rfl, rfl, rfl, Nat.le_refl _, fun _ _ => rfl⟩⟩
set_option maxHeartbeats 400000 in
set_option maxRecDepth 100000 in
theorem spelled_6 (w : World) : Calls Tryd.prog 48 #[.int .u8 6] w fun e w' => e = .returned (.string ⟨(spellL 6).toArray⟩) ∧ Below w.heap.size w w' := by
  have hcv := fun a b => run_str2 w a b
  go_enter Tryd.func48, Tryd.ntmps48
  go_wp2_with fail
  go_region
  go_wp2_with fail
  go_ret
  exact ⟨by rfl, ((Below.refl _ _).alloc (Nat.le_refl _) _).trans ⟨rfl, rfl, rfl, Nat.le_refl _, fun _ _ => rfl⟩⟩
set_option maxHeartbeats 400000 in
set_option maxRecDepth 100000 in
theorem spelled_7 (w : World) : Calls Tryd.prog 48 #[.int .u8 7] w fun e w' => e = .returned (.string ⟨(spellL 7).toArray⟩) ∧ Below w.heap.size w w' := by
  have hcv := fun a b => run_str2 w a b
  go_enter Tryd.func48, Tryd.ntmps48
  go_wp2_with fail
  go_region
  go_wp2_with fail
  go_ret
  exact ⟨by rfl, ((Below.refl _ _).alloc (Nat.le_refl _) _).trans ⟨rfl, rfl, rfl, Nat.le_refl _, fun _ _ => rfl⟩⟩
set_option maxHeartbeats 400000 in
set_option maxRecDepth 100000 in
theorem spelled_8 (w : World) : Calls Tryd.prog 48 #[.int .u8 8] w fun e w' => e = .returned (.string ⟨(spellL 8).toArray⟩) ∧ Below w.heap.size w w' := by
  have hcv := fun a b => run_str2 w a b
  go_enter Tryd.func48, Tryd.ntmps48
  go_wp2_with fail
  go_region
  go_wp2_with fail
  go_ret
  exact ⟨by rfl, ((Below.refl _ _).alloc (Nat.le_refl _) _).trans ⟨rfl, rfl, rfl, Nat.le_refl _, fun _ _ => rfl⟩⟩
set_option maxHeartbeats 400000 in
set_option maxRecDepth 100000 in
theorem spelled_9 (w : World) : Calls Tryd.prog 48 #[.int .u8 9] w fun e w' => e = .returned (.string ⟨(spellL 9).toArray⟩) ∧ Below w.heap.size w w' := by
  have hcv := fun a b => run_str2 w a b
  go_enter Tryd.func48, Tryd.ntmps48
  go_wp2_with fail
  go_region
  go_wp2_with fail
  go_ret
  exact ⟨by rfl, ((Below.refl _ _).alloc (Nat.le_refl _) _).trans ⟨rfl, rfl, rfl, Nat.le_refl _, fun _ _ => rfl⟩⟩
set_option maxHeartbeats 400000 in
set_option maxRecDepth 100000 in
theorem spelled_10 (w : World) : Calls Tryd.prog 48 #[.int .u8 10] w fun e w' => e = .returned (.string ⟨(spellL 10).toArray⟩) ∧ Below w.heap.size w w' := by
  have hcv := fun a b => run_str2 w a b
  go_enter Tryd.func48, Tryd.ntmps48
  go_wp2_with fail
  go_region
  go_wp2_with fail
  go_ret
  exact ⟨by rfl, ((Below.refl _ _).alloc (Nat.le_refl _) _).trans ⟨rfl, rfl, rfl, Nat.le_refl _, fun _ _ => rfl⟩⟩
set_option maxHeartbeats 400000 in
set_option maxRecDepth 100000 in
theorem spelled_11 (w : World) : Calls Tryd.prog 48 #[.int .u8 11] w fun e w' => e = .returned (.string ⟨(spellL 11).toArray⟩) ∧ Below w.heap.size w w' := by
  have hcv := fun a b => run_str2 w a b
  go_enter Tryd.func48, Tryd.ntmps48
  go_wp2_with fail
  go_region
  go_wp2_with fail
  go_ret
  exact ⟨by rfl, ((Below.refl _ _).alloc (Nat.le_refl _) _).trans ⟨rfl, rfl, rfl, Nat.le_refl _, fun _ _ => rfl⟩⟩
set_option maxHeartbeats 400000 in
set_option maxRecDepth 100000 in
theorem spelled_12 (w : World) : Calls Tryd.prog 48 #[.int .u8 12] w fun e w' => e = .returned (.string ⟨(spellL 12).toArray⟩) ∧ Below w.heap.size w w' := by
  have hcv := fun a b => run_str2 w a b
  go_enter Tryd.func48, Tryd.ntmps48
  go_wp2_with fail
  go_region
  go_wp2_with fail
  go_ret
  exact ⟨by rfl, ((Below.refl _ _).alloc (Nat.le_refl _) _).trans ⟨rfl, rfl, rfl, Nat.le_refl _, fun _ _ => rfl⟩⟩
set_option maxHeartbeats 400000 in
set_option maxRecDepth 100000 in
theorem spelled_13 (w : World) : Calls Tryd.prog 48 #[.int .u8 13] w fun e w' => e = .returned (.string ⟨(spellL 13).toArray⟩) ∧ Below w.heap.size w w' := by
  have hcv := fun a b => run_str2 w a b
  go_enter Tryd.func48, Tryd.ntmps48
  go_wp2_with fail
  go_region
  go_wp2_with fail
  go_ret
  exact ⟨by rfl, ((Below.refl _ _).alloc (Nat.le_refl _) _).trans ⟨rfl, rfl, rfl, Nat.le_refl _, fun _ _ => rfl⟩⟩
set_option maxHeartbeats 400000 in
set_option maxRecDepth 100000 in
theorem spelled_14 (w : World) : Calls Tryd.prog 48 #[.int .u8 14] w fun e w' => e = .returned (.string ⟨(spellL 14).toArray⟩) ∧ Below w.heap.size w w' := by
  have hcv := fun a b => run_str2 w a b
  go_enter Tryd.func48, Tryd.ntmps48
  go_wp2_with fail
  go_region
  go_wp2_with fail
  go_ret
  exact ⟨by rfl, ((Below.refl _ _).alloc (Nat.le_refl _) _).trans ⟨rfl, rfl, rfl, Nat.le_refl _, fun _ _ => rfl⟩⟩
set_option maxHeartbeats 400000 in
set_option maxRecDepth 100000 in
theorem spelled_15 (w : World) : Calls Tryd.prog 48 #[.int .u8 15] w fun e w' => e = .returned (.string ⟨(spellL 15).toArray⟩) ∧ Below w.heap.size w w' := by
  have hcv := fun a b => run_str2 w a b
  go_enter Tryd.func48, Tryd.ntmps48
  go_wp2_with fail
  go_region
  go_wp2_with fail
  go_ret
  exact ⟨by rfl, ((Below.refl _ _).alloc (Nat.le_refl _) _).trans ⟨rfl, rfl, rfl, Nat.le_refl _, fun _ _ => rfl⟩⟩
set_option maxHeartbeats 400000 in
set_option maxRecDepth 100000 in
theorem spelled_16 (w : World) : Calls Tryd.prog 48 #[.int .u8 16] w fun e w' => e = .returned (.string ⟨(spellL 16).toArray⟩) ∧ Below w.heap.size w w' := by
  have hcv := fun a b => run_str2 w a b
  go_enter Tryd.func48, Tryd.ntmps48
  go_wp2_with fail
  go_region
  go_wp2_with fail
  go_ret
  exact ⟨by rfl, ((Below.refl _ _).alloc (Nat.le_refl _) _).trans ⟨rfl, rfl, rfl, Nat.le_refl _, fun _ _ => rfl⟩⟩
set_option maxHeartbeats 400000 in
set_option maxRecDepth 100000 in
theorem spelled_17 (w : World) : Calls Tryd.prog 48 #[.int .u8 17] w fun e w' => e = .returned (.string ⟨(spellL 17).toArray⟩) ∧ Below w.heap.size w w' := by
  have hcv := fun a b => run_str2 w a b
  go_enter Tryd.func48, Tryd.ntmps48
  go_wp2_with fail
  go_region
  go_wp2_with fail
  go_ret
  exact ⟨by rfl, ((Below.refl _ _).alloc (Nat.le_refl _) _).trans ⟨rfl, rfl, rfl, Nat.le_refl _, fun _ _ => rfl⟩⟩
set_option maxHeartbeats 400000 in
set_option maxRecDepth 100000 in
theorem spelled_18 (w : World) : Calls Tryd.prog 48 #[.int .u8 18] w fun e w' => e = .returned (.string ⟨(spellL 18).toArray⟩) ∧ Below w.heap.size w w' := by
  have hcv := fun a b => run_str2 w a b
  go_enter Tryd.func48, Tryd.ntmps48
  go_wp2_with fail
  go_region
  go_wp2_with fail
  go_ret
  exact ⟨by rfl, ((Below.refl _ _).alloc (Nat.le_refl _) _).trans ⟨rfl, rfl, rfl, Nat.le_refl _, fun _ _ => rfl⟩⟩
set_option maxHeartbeats 400000 in
set_option maxRecDepth 100000 in
theorem spelled_19 (w : World) : Calls Tryd.prog 48 #[.int .u8 19] w fun e w' => e = .returned (.string ⟨(spellL 19).toArray⟩) ∧ Below w.heap.size w w' := by
  have hcv := fun a b => run_str2 w a b
  go_enter Tryd.func48, Tryd.ntmps48
  go_wp2_with fail
  go_region
  go_wp2_with fail
  go_ret
  exact ⟨by rfl, ((Below.refl _ _).alloc (Nat.le_refl _) _).trans ⟨rfl, rfl, rfl, Nat.le_refl _, fun _ _ => rfl⟩⟩
set_option maxHeartbeats 400000 in
set_option maxRecDepth 100000 in
theorem spelled_20 (w : World) : Calls Tryd.prog 48 #[.int .u8 20] w fun e w' => e = .returned (.string ⟨(spellL 20).toArray⟩) ∧ Below w.heap.size w w' := by
  have hcv := fun a b => run_str2 w a b
  go_enter Tryd.func48, Tryd.ntmps48
  go_wp2_with fail
  go_region
  go_wp2_with fail
  go_ret
  exact ⟨by rfl, ((Below.refl _ _).alloc (Nat.le_refl _) _).trans ⟨rfl, rfl, rfl, Nat.le_refl _, fun _ _ => rfl⟩⟩
set_option maxHeartbeats 400000 in
set_option maxRecDepth 100000 in
theorem spelled_21 (w : World) : Calls Tryd.prog 48 #[.int .u8 21] w fun e w' => e = .returned (.string ⟨(spellL 21).toArray⟩) ∧ Below w.heap.size w w' := by
  have hcv := fun a b => run_str2 w a b
  go_enter Tryd.func48, Tryd.ntmps48
  go_wp2_with fail
  go_region
  go_wp2_with fail
  go_ret
  exact ⟨by rfl, ((Below.refl _ _).alloc (Nat.le_refl _) _).trans ⟨rfl, rfl, rfl, Nat.le_refl _, fun _ _ => rfl⟩⟩
set_option maxHeartbeats 400000 in
set_option maxRecDepth 100000 in
theorem spelled_22 (w : World) : Calls Tryd.prog 48 #[.int .u8 22] w fun e w' => e = .returned (.string ⟨(spellL 22).toArray⟩) ∧ Below w.heap.size w w' := by
  have hcv := fun a b => run_str2 w a b
  go_enter Tryd.func48, Tryd.ntmps48
  go_wp2_with fail
  go_region
  go_wp2_with fail
  go_ret
  exact ⟨by rfl, ((Below.refl _ _).alloc (Nat.le_refl _) _).trans ⟨rfl, rfl, rfl, Nat.le_refl _, fun _ _ => rfl⟩⟩
set_option maxHeartbeats 400000 in
set_option maxRecDepth 100000 in
theorem spelled_23 (w : World) : Calls Tryd.prog 48 #[.int .u8 23] w fun e w' => e = .returned (.string ⟨(spellL 23).toArray⟩) ∧ Below w.heap.size w w' := by
  have hcv := fun a b => run_str2 w a b
  go_enter Tryd.func48, Tryd.ntmps48
  go_wp2_with fail
  go_region
  go_wp2_with fail
  go_ret
  exact ⟨by rfl, ((Below.refl _ _).alloc (Nat.le_refl _) _).trans ⟨rfl, rfl, rfl, Nat.le_refl _, fun _ _ => rfl⟩⟩
set_option maxHeartbeats 400000 in
set_option maxRecDepth 100000 in
theorem spelled_24 (w : World) : Calls Tryd.prog 48 #[.int .u8 24] w fun e w' => e = .returned (.string ⟨(spellL 24).toArray⟩) ∧ Below w.heap.size w w' := by
  have hcv := fun a b => run_str2 w a b
  go_enter Tryd.func48, Tryd.ntmps48
  go_wp2_with fail
  go_region
  go_wp2_with fail
  go_ret
  exact ⟨by rfl, ((Below.refl _ _).alloc (Nat.le_refl _) _).trans ⟨rfl, rfl, rfl, Nat.le_refl _, fun _ _ => rfl⟩⟩
set_option maxHeartbeats 400000 in
set_option maxRecDepth 100000 in
theorem spelled_25 (w : World) : Calls Tryd.prog 48 #[.int .u8 25] w fun e w' => e = .returned (.string ⟨(spellL 25).toArray⟩) ∧ Below w.heap.size w w' := by
  have hcv := fun a b => run_str2 w a b
  go_enter Tryd.func48, Tryd.ntmps48
  go_wp2_with fail
  go_region
  go_wp2_with fail
  go_ret
  exact ⟨by rfl, ((Below.refl _ _).alloc (Nat.le_refl _) _).trans ⟨rfl, rfl, rfl, Nat.le_refl _, fun _ _ => rfl⟩⟩
set_option maxHeartbeats 400000 in
set_option maxRecDepth 100000 in
theorem spelled_26 (w : World) : Calls Tryd.prog 48 #[.int .u8 26] w fun e w' => e = .returned (.string ⟨(spellL 26).toArray⟩) ∧ Below w.heap.size w w' := by
  have hcv := fun a b => run_str2 w a b
  go_enter Tryd.func48, Tryd.ntmps48
  go_wp2_with fail
  go_region
  go_wp2_with fail
  go_ret
  exact ⟨by rfl, ((Below.refl _ _).alloc (Nat.le_refl _) _).trans ⟨rfl, rfl, rfl, Nat.le_refl _, fun _ _ => rfl⟩⟩
set_option maxHeartbeats 400000 in
set_option maxRecDepth 100000 in
theorem spelled_27 (w : World) : Calls Tryd.prog 48 #[.int .u8 27] w fun e w' => e = .returned (.string ⟨(spellL 27).toArray⟩) ∧ Below w.heap.size w w' := by
  have hcv := fun a b => run_str2 w a b
  go_enter Tryd.func48, Tryd.ntmps48
  go_wp2_with fail
  go_region
  go_wp2_with fail
  go_ret
  exact ⟨by rfl, ((Below.refl _ _).alloc (Nat.le_refl _) _).trans ⟨rfl, rfl, rfl, Nat.le_refl _, fun _ _ => rfl⟩⟩
set_option maxHeartbeats 400000 in
set_option maxRecDepth 100000 in
theorem spelled_28 (w : World) : Calls Tryd.prog 48 #[.int .u8 28] w fun e w' => e = .returned (.string ⟨(spellL 28).toArray⟩) ∧ Below w.heap.size w w' := by
  have hcv := fun a b => run_str2 w a b
  go_enter Tryd.func48, Tryd.ntmps48
  go_wp2_with fail
  go_region
  go_wp2_with fail
  go_ret
  exact ⟨by rfl, ((Below.refl _ _).alloc (Nat.le_refl _) _).trans ⟨rfl, rfl, rfl, Nat.le_refl _, fun _ _ => rfl⟩⟩
set_option maxHeartbeats 400000 in
set_option maxRecDepth 100000 in
theorem spelled_29 (w : World) : Calls Tryd.prog 48 #[.int .u8 29] w fun e w' => e = .returned (.string ⟨(spellL 29).toArray⟩) ∧ Below w.heap.size w w' := by
  have hcv := fun a b => run_str2 w a b
  go_enter Tryd.func48, Tryd.ntmps48
  go_wp2_with fail
  go_region
  go_wp2_with fail
  go_ret
  exact ⟨by rfl, ((Below.refl _ _).alloc (Nat.le_refl _) _).trans ⟨rfl, rfl, rfl, Nat.le_refl _, fun _ _ => rfl⟩⟩
set_option maxHeartbeats 400000 in
set_option maxRecDepth 100000 in
theorem spelled_30 (w : World) : Calls Tryd.prog 48 #[.int .u8 30] w fun e w' => e = .returned (.string ⟨(spellL 30).toArray⟩) ∧ Below w.heap.size w w' := by
  have hcv := fun a b => run_str2 w a b
  go_enter Tryd.func48, Tryd.ntmps48
  go_wp2_with fail
  go_region
  go_wp2_with fail
  go_ret
  exact ⟨by rfl, ((Below.refl _ _).alloc (Nat.le_refl _) _).trans ⟨rfl, rfl, rfl, Nat.le_refl _, fun _ _ => rfl⟩⟩
set_option maxHeartbeats 400000 in
set_option maxRecDepth 100000 in
theorem spelled_31 (w : World) : Calls Tryd.prog 48 #[.int .u8 31] w fun e w' => e = .returned (.string ⟨(spellL 31).toArray⟩) ∧ Below w.heap.size w w' := by
  have hcv := fun a b => run_str2 w a b
  go_enter Tryd.func48, Tryd.ntmps48
  go_wp2_with fail
  go_region
  go_wp2_with fail
  go_ret
  exact ⟨by rfl, ((Below.refl _ _).alloc (Nat.le_refl _) _).trans ⟨rfl, rfl, rfl, Nat.le_refl _, fun _ _ => rfl⟩⟩
set_option maxHeartbeats 400000 in
set_option maxRecDepth 100000 in
theorem spelled_92 (w : World) : Calls Tryd.prog 48 #[.int .u8 92] w fun e w' => e = .returned (.string ⟨(spellL 92).toArray⟩) ∧ Below w.heap.size w w' := by
  have hcv := fun a b => run_str2 w a b
  go_enter Tryd.func48, Tryd.ntmps48
  go_wp2_with fail
  go_region
  go_wp2_with fail
  go_ret
  exact ⟨by rfl, ((Below.refl _ _).alloc (Nat.le_refl _) _).trans ⟨rfl, rfl, rfl, Nat.le_refl _, fun _ _ => rfl⟩⟩

set_option maxHeartbeats 400000 in
set_option maxRecDepth 100000 in
theorem spelled_any (w : World) (c : UInt8) : Calls Tryd.prog 48 #[.int .u8 (c.toNat : Int)] w fun e w' => e = .returned (.string ⟨(spellL c).toArray⟩) ∧ Below w.heap.size w w' := by
  by_cases h39 : c.toNat = 39
  · obtain rfl : c = 39 := UInt8.toNat_inj.1 h39
    rw [show (((39 : UInt8).toNat : Nat) : Int) = 39 from rfl]
    go_enter Tryd.func48, Tryd.ntmps48
    go_wp2_with fail
    go_ret
    exact ⟨rfl, Below.refl _ _⟩
  by_cases hx : c.toNat < 32 ∨ c.toNat = 92
  · have hcase : c.toNat = 0 ∨ c.toNat = 1 ∨ c.toNat = 2 ∨ c.toNat = 3 ∨ c.toNat = 4 ∨ c.toNat = 5 ∨ c.toNat = 6 ∨ c.toNat = 7 ∨ c.toNat = 8 ∨ c.toNat = 9 ∨ c.toNat = 10 ∨ c.toNat = 11 ∨ c.toNat = 12 ∨ c.toNat = 13 ∨ c.toNat = 14 ∨ c.toNat = 15 ∨ c.toNat = 16 ∨ c.toNat = 17 ∨ c.toNat = 18 ∨ c.toNat = 19 ∨ c.toNat = 20 ∨ c.toNat = 21 ∨ c.toNat = 22 ∨ c.toNat = 23 ∨ c.toNat = 24 ∨ c.toNat = 25 ∨ c.toNat = 26 ∨ c.toNat = 27 ∨ c.toNat = 28 ∨ c.toNat = 29 ∨ c.toNat = 30 ∨ c.toNat = 31 ∨ c.toNat = 92 := by omega
    rcases hcase with h | h | h | h | h | h | h | h | h | h | h | h | h | h | h | h | h | h | h | h | h | h | h | h | h | h | h | h | h | h | h | h | h
    · obtain rfl : c = 0 := UInt8.toNat_inj.1 h
      exact spelled_0 w
    · obtain rfl : c = 1 := UInt8.toNat_inj.1 h
      exact spelled_1 w
    · obtain rfl : c = 2 := UInt8.toNat_inj.1 h
      exact spelled_2 w
    · obtain rfl : c = 3 := UInt8.toNat_inj.1 h
      exact spelled_3 w
    · obtain rfl : c = 4 := UInt8.toNat_inj.1 h
      exact spelled_4 w
    · obtain rfl : c = 5 := UInt8.toNat_inj.1 h
      exact spelled_5 w
    · obtain rfl : c = 6 := UInt8.toNat_inj.1 h
      exact spelled_6 w
    · obtain rfl : c = 7 := UInt8.toNat_inj.1 h
      exact spelled_7 w
    · obtain rfl : c = 8 := UInt8.toNat_inj.1 h
      exact spelled_8 w
    · obtain rfl : c = 9 := UInt8.toNat_inj.1 h
      exact spelled_9 w
    · obtain rfl : c = 10 := UInt8.toNat_inj.1 h
      exact spelled_10 w
    · obtain rfl : c = 11 := UInt8.toNat_inj.1 h
      exact spelled_11 w
    · obtain rfl : c = 12 := UInt8.toNat_inj.1 h
      exact spelled_12 w
    · obtain rfl : c = 13 := UInt8.toNat_inj.1 h
      exact spelled_13 w
    · obtain rfl : c = 14 := UInt8.toNat_inj.1 h
      exact spelled_14 w
    · obtain rfl : c = 15 := UInt8.toNat_inj.1 h
      exact spelled_15 w
    · obtain rfl : c = 16 := UInt8.toNat_inj.1 h
      exact spelled_16 w
    · obtain rfl : c = 17 := UInt8.toNat_inj.1 h
      exact spelled_17 w
    · obtain rfl : c = 18 := UInt8.toNat_inj.1 h
      exact spelled_18 w
    · obtain rfl : c = 19 := UInt8.toNat_inj.1 h
      exact spelled_19 w
    · obtain rfl : c = 20 := UInt8.toNat_inj.1 h
      exact spelled_20 w
    · obtain rfl : c = 21 := UInt8.toNat_inj.1 h
      exact spelled_21 w
    · obtain rfl : c = 22 := UInt8.toNat_inj.1 h
      exact spelled_22 w
    · obtain rfl : c = 23 := UInt8.toNat_inj.1 h
      exact spelled_23 w
    · obtain rfl : c = 24 := UInt8.toNat_inj.1 h
      exact spelled_24 w
    · obtain rfl : c = 25 := UInt8.toNat_inj.1 h
      exact spelled_25 w
    · obtain rfl : c = 26 := UInt8.toNat_inj.1 h
      exact spelled_26 w
    · obtain rfl : c = 27 := UInt8.toNat_inj.1 h
      exact spelled_27 w
    · obtain rfl : c = 28 := UInt8.toNat_inj.1 h
      exact spelled_28 w
    · obtain rfl : c = 29 := UInt8.toNat_inj.1 h
      exact spelled_29 w
    · obtain rfl : c = 30 := UInt8.toNat_inj.1 h
      exact spelled_30 w
    · obtain rfl : c = 31 := UInt8.toNat_inj.1 h
      exact spelled_31 w
    · obtain rfl : c = 92 := UInt8.toNat_inj.1 h
      exact spelled_92 w
  · have HS : Hid (spellL c = [c]) := by
      show spellL c = [c]
      unfold spellL escB
      rw [if_neg h39, if_neg (by simp; omega)]
    have hcv := run_str1 w c
    have e0 : (({ data := #[39] } : ByteArray)[0]'(by decide)).toNat = 39 := rfl
    have e1 : (({ data := #[92] } : ByteArray)[0]'(by decide)).toNat = 92 := rfl
    have q0 : ((c.toNat : Int) == 39) = false := by rw [beq_eq_false_iff_ne]; omega
    have q1 : ((c.toNat : Int) == 92) = false := by rw [beq_eq_false_iff_ne]; omega
    have q2 : decide ((c.toNat : Int) < 32) = false := by simp; omega
    have q3 : 32 ≤ (c.toNat : Int) := by omega
    clear h39 hx
    generalize c.toNat = x at *
    go_enter Tryd.func48, Tryd.ntmps48
    go_wp2_with fail
    go_ret
    exact ⟨by rw [HS.out]; rfl, (Below.refl _ _).alloc (Nat.le_refl _) _⟩

end Go.Proofs.YtcnbbmgclphfdaaDoor
