/- Contract of putInt: the eight bytes of a number, and 2^63 more, the highest first. -/
import Derived.Test.YtcnbbmgclphfdaaDoorPut
import Derived.Laws.Bits64
namespace Go.Proofs.YtcnbbmgclphfdaaDoor
open Go.RowKit Go.Sort

theorem xor_low (a : Nat) (h : a < 9223372036854775808) : a ^^^ 9223372036854775808 = a + 9223372036854775808 := by
  have e : (9223372036854775808 : Nat) = 2 ^ 63 := by decide
  rw [e] at h ⊢
  rw [Nat.add_comm]
  refine Nat.eq_of_testBit_eq fun i => ?_
  rw [Nat.testBit_xor, Nat.testBit_two_pow]
  rcases Nat.lt_trichotomy i 63 with hi | hi | hi
  · rw [Nat.testBit_two_pow_add_gt hi]
    have : ¬ (63 = i) := by omega
    simp [this]
  · subst hi
    rw [Nat.testBit_two_pow_add_eq]
    simp
  · have h1 : a.testBit i = false := Nat.testBit_lt_two_pow (Nat.lt_of_lt_of_le h (Nat.pow_le_pow_right (by decide) (by omega)))
    have h2 : (2 ^ 63 + a).testBit i = false := Nat.testBit_lt_two_pow (Nat.lt_of_lt_of_le (show 2 ^ 63 + a < 2 ^ 64 by omega) (Nat.pow_le_pow_right (by decide) (by omega)))
    have : ¬ (63 = i) := by omega
    simp [h1, h2, this]
theorem xor_high (a : Nat) (h : a < 9223372036854775808) : (a + 9223372036854775808) ^^^ 9223372036854775808 = a := by
  rw [← xor_low a h, Nat.xor_assoc, Nat.xor_self, Nat.xor_zero]

theorem flip_u64 {n : Int} (hn : inR n) : bits .xor .u64 (IntKind.u64.wrap n) 9223372036854775808 = n + 9223372036854775808 := by
  unfold inR at hn
  have hw : IntKind.u64.wrap n = n % 18446744073709551616 := by simp [IntKind.wrap, IntKind.signed, IntKind.bits]
  rw [hw]
  obtain ⟨a, ha⟩ : ∃ a : Nat, n % 18446744073709551616 = a := ⟨(n % 18446744073709551616).toNat, by omega⟩
  rw [ha]
  have := bits_xor_u64_nat a 9223372036854775808 (by omega) (by decide)
  have e : ((9223372036854775808 : Nat) : Int) = 9223372036854775808 := rfl
  rw [e] at this
  refine this.trans ?_
  by_cases hl : a < 9223372036854775808
  · rw [xor_low a hl]; omega
  · obtain ⟨b, rfl⟩ : ∃ b, a = b + 9223372036854775808 := ⟨a - 9223372036854775808, by omega⟩
    rw [xor_high b (by omega)]; omega

/-- A number's eight bytes, the highest first. -/
def encN (B : Nat) : List UInt8 := [UInt8.ofNat (B / 72057594037927936), UInt8.ofNat (B / 281474976710656), UInt8.ofNat (B / 1099511627776), UInt8.ofNat (B / 4294967296), UInt8.ofNat (B / 16777216), UInt8.ofNat (B / 65536), UInt8.ofNat (B / 256), UInt8.ofNat (B / 1)]
def encI (n : Int) : List UInt8 := encN (n + 9223372036854775808).toNat
theorem encN_length (B : Nat) : (encN B).length = 8 := rfl
theorem cellN (B d : Nat) : bcells [UInt8.ofNat (B / d)] = [.int .u8 ((B : Int) / (d : Int) % 256)] := by
  simp [bcells]
theorem pushN (B k : Nat) (h : k < 8) (bs : List UInt8) : bs ++ (encN B).take k ++ [(encN B).getD k 0] = bs ++ (encN B).take (k + 1) := by
  rw [List.append_assoc, List.take_succ_eq_append_getElem (by rw [encN_length]; exact h)]
  simp [List.getD, List.getElem?_eq_getElem (show k < (encN B).length by rw [encN_length]; exact h)]

end Go.Proofs.YtcnbbmgclphfdaaDoor
