/- Contract of putInt: the eight bytes of a number, and 2^63 more, the highest first. -/
import Derived.Test.YtalfeggddfpgeaaDoorPut
import Derived.Laws.Bits64
namespace Go.Proofs.YtalfeggddfpgeaaDoor
open Go.RowKit Go.Sort

theorem xor_low (a : Nat) (h : a < 9223372036854775808) : a ^^^ 9223372036854775808 = a + 9223372036854775808 := by
  have e : (9223372036854775808 : Nat) = 2 ^ 63 := by decide
  rw [e] at h ⊢
  rw [Nat.add_comm]
  refine Nat.eq_of_testBit_eq fun i => ?_
  rw [Nat.testBit_xor, Nat.testBit_two_pow]
  rcases Nat.lt_trichotomy i 63 with hi | hi | hi
  · rw [Nat.testBit_two_pow_add_gt hi]
    have : ¬ (63 = i) := by omega
    simp [this]
  · subst hi
    rw [Nat.testBit_two_pow_add_eq]
    simp
  · have h1 : a.testBit i = false := Nat.testBit_lt_two_pow (Nat.lt_of_lt_of_le h (Nat.pow_le_pow_right (by decide) (by omega)))
    have h2 : (2 ^ 63 + a).testBit i = false := Nat.testBit_lt_two_pow (Nat.lt_of_lt_of_le (show 2 ^ 63 + a < 2 ^ 64 by omega) (Nat.pow_le_pow_right (by decide) (by omega)))
    have : ¬ (63 = i) := by omega
    simp [h1, h2, this]
theorem xor_high (a : Nat) (h : a < 9223372036854775808) : (a + 9223372036854775808) ^^^ 9223372036854775808 = a := by
  rw [← xor_low a h, Nat.xor_assoc, Nat.xor_self, Nat.xor_zero]

theorem flip_u64 {n : Int} (hn : inR n) : bits .xor .u64 (IntKind.u64.wrap n) 9223372036854775808 = n + 9223372036854775808 := by
  unfold inR at hn
  have hw : IntKind.u64.wrap n = n % 18446744073709551616 := by simp [IntKind.wrap, IntKind.signed, IntKind.bits]
  rw [hw]
  obtain ⟨a, ha⟩ : ∃ a : Nat, n % 18446744073709551616 = a := ⟨(n % 18446744073709551616).toNat, by omega⟩
  rw [ha]
  have := bits_xor_u64_nat a 9223372036854775808 (by omega) (by decide)
  have e : ((9223372036854775808 : Nat) : Int) = 9223372036854775808 := rfl
  rw [e] at this
  refine this.trans ?_
  by_cases hl : a < 9223372036854775808
  · rw [xor_low a hl]; omega
  · obtain ⟨b, rfl⟩ : ∃ b, a = b + 9223372036854775808 := ⟨a - 9223372036854775808, by omega⟩
    rw [xor_high b (by omega)]; omega

/-- A number's eight bytes, the highest first. -/
def encN (B : Nat) : List UInt8 := [UInt8.ofNat (B / 72057594037927936), UInt8.ofNat (B / 281474976710656), UInt8.ofNat (B / 1099511627776), UInt8.ofNat (B / 4294967296), UInt8.ofNat (B / 16777216), UInt8.ofNat (B / 65536), UInt8.ofNat (B / 256), UInt8.ofNat (B / 1)]
def encI (n : Int) : List UInt8 := encN (n + 9223372036854775808).toNat
theorem encN_length (B : Nat) : (encN B).length = 8 := rfl
theorem cellN (B d : Nat) : bcells [UInt8.ofNat (B / d)] = [.int .u8 ((B : Int) / (d : Int) % 256)] := by
  simp [bcells]
theorem pushN (B k : Nat) (h : k < 8) (bs : List UInt8) : bs ++ (encN B).take k ++ [(encN B).getD k 0] = bs ++ (encN B).take (k + 1) := by
  rw [List.append_assoc, List.take_succ_eq_append_getElem (by rw [encN_length]; exact h)]
  simp [List.getD, List.getElem?_eq_getElem (show k < (encN B).length by rw [encN_length]; exact h)]

set_option maxHeartbeats 2000000 in
theorem putInt_any (w : World) (base : Nat) (v : Value) (bs : List UInt8) (n : Int) (hown : OwnB w base v bs) (hb : base ≤ w.heap.size) (hlen : bs.length ≤ 500000) (hn : inR n) :
    Calls Tryd.prog 51 #[v, .int .i64 n] w fun e w' => ∃ v', e = .returned v' ∧ OwnB w' base v' (bs ++ encI n) ∧ Below base w w' := by
  have hf := flip_u64 hn
  obtain ⟨B, hB⟩ : ∃ B : Nat, n + 9223372036854775808 = B := ⟨(n + 9223372036854775808).toNat, by unfold inR at hn; omega⟩
  have he : encI n = encN B := by unfold encI; rw [hB]; rfl
  rw [he]
  rw [hB] at hf
  clear hB he hn
  go_enter Tryd.func51, Tryd.ntmps51
  go_wp2
  go_loopw [0, 10] (fun u i wr => ∃ k : Nat, k ≤ 8 ∧ i = .int .i64 k ∧ OwnB wr base u (bs ++ (encN B).take k) ∧ Below base w wr) (fun _ i _ => 8 - (intOf i).toNat)
  case atStart => exact ⟨0, Nat.zero_le _, rfl, by simpa using hown, Below.refl _ _⟩
  case round =>
    obtain ⟨k, hk, rfl, hr, hbel⟩ := hrel
    have hsz := hbel.size
    clear hown hf
    have hk8 : k = 8 ∨ k = 0 ∨ k = 1 ∨ k = 2 ∨ k = 3 ∨ k = 4 ∨ k = 5 ∨ k = 6 ∨ k = 7 := by omega
    rcases hk8 with rfl | rfl | rfl | rfl | rfl | rfl | rfl | rfl | rfl
    · go_wp2_with fail
      go_ret
      exact ⟨_, rfl, by simpa [List.take_of_length_le (Nat.le_of_eq (encN_length B))] using hr, hbel⟩
    · go_wp2_with (at_builtin; refine wpList_push (.tmp 13) (.tmp 20) rfl rfl rfl hr (by omega) [(encN B).getD 0 0] (by first | exact (cellN B 72057594037927936).symm | (simp [bcells, encN]; done) | (simp [bcells, encN]; omega)) rfl (by first | rfl | simp) (by simp; omega) ?_; intro v1 w1 hr1 hb1; rw [pushN B 0 (by decide)] at hr1)
      go_roundw
      case rel => exact ⟨1, by omega, by go_num, hr1, hbel.trans hb1⟩
      case measure => simp [intOf]
    · go_wp2_with (at_builtin; refine wpList_push (.tmp 13) (.tmp 20) rfl rfl rfl hr (by omega) [(encN B).getD 1 0] (by first | exact (cellN B 281474976710656).symm | (simp [bcells, encN]; done) | (simp [bcells, encN]; omega)) rfl (by first | rfl | simp) (by simp; omega) ?_; intro v1 w1 hr1 hb1; rw [pushN B 1 (by decide)] at hr1)
      go_roundw
      case rel => exact ⟨2, by omega, by go_num, hr1, hbel.trans hb1⟩
      case measure => simp [intOf]
    · go_wp2_with (at_builtin; refine wpList_push (.tmp 13) (.tmp 20) rfl rfl rfl hr (by omega) [(encN B).getD 2 0] (by first | exact (cellN B 1099511627776).symm | (simp [bcells, encN]; done) | (simp [bcells, encN]; omega)) rfl (by first | rfl | simp) (by simp; omega) ?_; intro v1 w1 hr1 hb1; rw [pushN B 2 (by decide)] at hr1)
      go_roundw
      case rel => exact ⟨3, by omega, by go_num, hr1, hbel.trans hb1⟩
      case measure => simp [intOf]
    · go_wp2_with (at_builtin; refine wpList_push (.tmp 13) (.tmp 20) rfl rfl rfl hr (by omega) [(encN B).getD 3 0] (by first | exact (cellN B 4294967296).symm | (simp [bcells, encN]; done) | (simp [bcells, encN]; omega)) rfl (by first | rfl | simp) (by simp; omega) ?_; intro v1 w1 hr1 hb1; rw [pushN B 3 (by decide)] at hr1)
      go_roundw
      case rel => exact ⟨4, by omega, by go_num, hr1, hbel.trans hb1⟩
      case measure => simp [intOf]
    · go_wp2_with (at_builtin; refine wpList_push (.tmp 13) (.tmp 20) rfl rfl rfl hr (by omega) [(encN B).getD 4 0] (by first | exact (cellN B 16777216).symm | (simp [bcells, encN]; done) | (simp [bcells, encN]; omega)) rfl (by first | rfl | simp) (by simp; omega) ?_; intro v1 w1 hr1 hb1; rw [pushN B 4 (by decide)] at hr1)
      go_roundw
      case rel => exact ⟨5, by omega, by go_num, hr1, hbel.trans hb1⟩
      case measure => simp [intOf]
    · go_wp2_with (at_builtin; refine wpList_push (.tmp 13) (.tmp 20) rfl rfl rfl hr (by omega) [(encN B).getD 5 0] (by first | exact (cellN B 65536).symm | (simp [bcells, encN]; done) | (simp [bcells, encN]; omega)) rfl (by first | rfl | simp) (by simp; omega) ?_; intro v1 w1 hr1 hb1; rw [pushN B 5 (by decide)] at hr1)
      go_roundw
      case rel => exact ⟨6, by omega, by go_num, hr1, hbel.trans hb1⟩
      case measure => simp [intOf]
    · go_wp2_with (at_builtin; refine wpList_push (.tmp 13) (.tmp 20) rfl rfl rfl hr (by omega) [(encN B).getD 6 0] (by first | exact (cellN B 256).symm | (simp [bcells, encN]; done) | (simp [bcells, encN]; omega)) rfl (by first | rfl | simp) (by simp; omega) ?_; intro v1 w1 hr1 hb1; rw [pushN B 6 (by decide)] at hr1)
      go_roundw
      case rel => exact ⟨7, by omega, by go_num, hr1, hbel.trans hb1⟩
      case measure => simp [intOf]
    · go_wp2_with (at_builtin; refine wpList_push (.tmp 13) (.tmp 20) rfl rfl rfl hr (by omega) [(encN B).getD 7 0] (by first | exact (cellN B 1).symm | (simp [bcells, encN]; done) | (simp [bcells, encN]; omega)) rfl (by first | rfl | simp) (by simp; omega) ?_; intro v1 w1 hr1 hb1; rw [pushN B 7 (by decide)] at hr1)
      go_roundw
      case rel => exact ⟨8, by omega, by go_num, hr1, hbel.trans hb1⟩
      case measure => simp [intOf]

end Go.Proofs.YtalfeggddfpgeaaDoor
