/- The library reads the two digits of base 16 of a byte that is told so. -/
import Derived.Test.YtcnbbmgclphfdaaDoorRpHex0
import Derived.Test.YtcnbbmgclphfdaaDoorRpHex1
import Derived.Test.YtcnbbmgclphfdaaDoorRpHex2
import Derived.Test.YtcnbbmgclphfdaaDoorRpHex3
namespace Go.Proofs.YtcnbbmgclphfdaaDoor
open Go.RowKit Go.Sort

theorem hex_step (s : ByteArray) (n : Int) (h : ∀ w, Calls Tryd.prog 97 #[.string s, .int .i64 16, .int .i64 8] w fun e w' => e = .returned (.tuple #[.int .u64 n, .nilIface]) ∧ Below w.heap.size w w') (w : World) :
    Calls Tryd.prog 90 #[.string s, .int .i64 16, .int .i64 8] w fun e w' => e = .returned (.tuple #[.int .u64 n, .nilIface]) ∧ Below w.heap.size w w' := by
  have k := h w
  go_enter Tryd.func90, Tryd.ntmps90
  go_wp2_with fail
  refine k.mono ?_
  rintro e w1 ⟨rfl, b1⟩
  go_wp2_with fail
  go_ret2
  exact ⟨rfl, b1⟩
theorem hex_all (c : UInt8) (h : escB c = true) : HexOK c := by
  have hc : c.toNat < 32 ∨ c.toNat = 92 := by simpa [escB] using h
  have hcase : c.toNat = 0 ∨ c.toNat = 1 ∨ c.toNat = 2 ∨ c.toNat = 3 ∨ c.toNat = 4 ∨ c.toNat = 5 ∨ c.toNat = 6 ∨ c.toNat = 7 ∨ c.toNat = 8 ∨ c.toNat = 9 ∨ c.toNat = 10 ∨ c.toNat = 11 ∨ c.toNat = 12 ∨ c.toNat = 13 ∨ c.toNat = 14 ∨ c.toNat = 15 ∨ c.toNat = 16 ∨ c.toNat = 17 ∨ c.toNat = 18 ∨ c.toNat = 19 ∨ c.toNat = 20 ∨ c.toNat = 21 ∨ c.toNat = 22 ∨ c.toNat = 23 ∨ c.toNat = 24 ∨ c.toNat = 25 ∨ c.toNat = 26 ∨ c.toNat = 27 ∨ c.toNat = 28 ∨ c.toNat = 29 ∨ c.toNat = 30 ∨ c.toNat = 31 ∨ c.toNat = 92 := by omega
  rcases hcase with h | h | h | h | h | h | h | h | h | h | h | h | h | h | h | h | h | h | h | h | h | h | h | h | h | h | h | h | h | h | h | h | h
  · obtain rfl : c = 0 := UInt8.toNat_inj.1 h
    exact hex_step _ _ parse_0
  · obtain rfl : c = 1 := UInt8.toNat_inj.1 h
    exact hex_step _ _ parse_1
  · obtain rfl : c = 2 := UInt8.toNat_inj.1 h
    exact hex_step _ _ parse_2
  · obtain rfl : c = 3 := UInt8.toNat_inj.1 h
    exact hex_step _ _ parse_3
  · obtain rfl : c = 4 := UInt8.toNat_inj.1 h
    exact hex_step _ _ parse_4
  · obtain rfl : c = 5 := UInt8.toNat_inj.1 h
    exact hex_step _ _ parse_5
  · obtain rfl : c = 6 := UInt8.toNat_inj.1 h
    exact hex_step _ _ parse_6
  · obtain rfl : c = 7 := UInt8.toNat_inj.1 h
    exact hex_step _ _ parse_7
  · obtain rfl : c = 8 := UInt8.toNat_inj.1 h
    exact hex_step _ _ parse_8
  · obtain rfl : c = 9 := UInt8.toNat_inj.1 h
    exact hex_step _ _ parse_9
  · obtain rfl : c = 10 := UInt8.toNat_inj.1 h
    exact hex_step _ _ parse_10
  · obtain rfl : c = 11 := UInt8.toNat_inj.1 h
    exact hex_step _ _ parse_11
  · obtain rfl : c = 12 := UInt8.toNat_inj.1 h
    exact hex_step _ _ parse_12
  · obtain rfl : c = 13 := UInt8.toNat_inj.1 h
    exact hex_step _ _ parse_13
  · obtain rfl : c = 14 := UInt8.toNat_inj.1 h
    exact hex_step _ _ parse_14
  · obtain rfl : c = 15 := UInt8.toNat_inj.1 h
    exact hex_step _ _ parse_15
  · obtain rfl : c = 16 := UInt8.toNat_inj.1 h
    exact hex_step _ _ parse_16
  · obtain rfl : c = 17 := UInt8.toNat_inj.1 h
    exact hex_step _ _ parse_17
  · obtain rfl : c = 18 := UInt8.toNat_inj.1 h
    exact hex_step _ _ parse_18
  · obtain rfl : c = 19 := UInt8.toNat_inj.1 h
    exact hex_step _ _ parse_19
  · obtain rfl : c = 20 := UInt8.toNat_inj.1 h
    exact hex_step _ _ parse_20
  · obtain rfl : c = 21 := UInt8.toNat_inj.1 h
    exact hex_step _ _ parse_21
  · obtain rfl : c = 22 := UInt8.toNat_inj.1 h
    exact hex_step _ _ parse_22
  · obtain rfl : c = 23 := UInt8.toNat_inj.1 h
    exact hex_step _ _ parse_23
  · obtain rfl : c = 24 := UInt8.toNat_inj.1 h
    exact hex_step _ _ parse_24
  · obtain rfl : c = 25 := UInt8.toNat_inj.1 h
    exact hex_step _ _ parse_25
  · obtain rfl : c = 26 := UInt8.toNat_inj.1 h
    exact hex_step _ _ parse_26
  · obtain rfl : c = 27 := UInt8.toNat_inj.1 h
    exact hex_step _ _ parse_27
  · obtain rfl : c = 28 := UInt8.toNat_inj.1 h
    exact hex_step _ _ parse_28
  · obtain rfl : c = 29 := UInt8.toNat_inj.1 h
    exact hex_step _ _ parse_29
  · obtain rfl : c = 30 := UInt8.toNat_inj.1 h
    exact hex_step _ _ parse_30
  · obtain rfl : c = 31 := UInt8.toNat_inj.1 h
    exact hex_step _ _ parse_31
  · obtain rfl : c = 92 := UInt8.toNat_inj.1 h
    exact hex_step _ _ parse_92

end Go.Proofs.YtcnbbmgclphfdaaDoor
