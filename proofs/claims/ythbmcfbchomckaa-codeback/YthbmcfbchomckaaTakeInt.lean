/- Contract of takeInt: eight bytes are a number. -/
import Derived.Test.YthbmcfbchomckaaPutInt
import Derived.Laws.Bits64b
namespace Go.Proofs.Ythbmcfbchomckaa
open Go.RowKit Go.Sort

/-- The number that bytes are, the highest first. -/
def beN (l : List UInt8) : Nat := l.foldl (fun a b => a * 256 + b.toNat) 0
theorem beN_snoc (l : List UInt8) (b : UInt8) : beN (l ++ [b]) = beN l * 256 + b.toNat := by simp [beN]
theorem be_lt : ∀ (l : List UInt8) (a : Nat), l.foldl (fun a b => a * 256 + b.toNat) a < (a + 1) * 256 ^ l.length
  | [], a => by simp
  | b :: l, a => by
    have ih := be_lt l (a * 256 + b.toNat)
    have hb := b.toNat_lt
    rw [List.foldl_cons, List.length_cons, Nat.pow_succ]
    have h1 : (a * 256 + b.toNat + 1) * 256 ^ l.length ≤ ((a + 1) * 256) * 256 ^ l.length := Nat.mul_le_mul_right _ (by omega)
    have h2 : ((a + 1) * 256) * 256 ^ l.length = (a + 1) * (256 ^ l.length * 256) := by rw [Nat.mul_assoc, Nat.mul_comm 256]
    omega
theorem beN_lt (l : List UInt8) : beN l < 256 ^ l.length := by
  have := be_lt l 0
  simpa [beN] using this
theorem or8 {B : Nat} (c : UInt8) (h : B < 72057594037927936) : bits .or .u64 (IntKind.u64.wrap ((B : Int) * 256)) (IntKind.u64.wrap (c.toNat : Int)) = ((B * 256 + c.toNat : Nat) : Int) := by
  have hc := c.toNat_lt
  have hw : ∀ z, IntKind.u64.wrap z = z % 18446744073709551616 := fun z => by simp [IntKind.wrap, IntKind.signed, IntKind.bits]
  have e1 : IntKind.u64.wrap ((B : Int) * 256) = ((B * 256 : Nat) : Int) := by rw [hw]; omega
  have e2 : IntKind.u64.wrap (c.toNat : Int) = ((c.toNat : Nat) : Int) := by rw [hw]; omega
  rw [e1, e2, bits_or_u64_nat _ _ (by omega) (by omega)]
  have := Nat.two_pow_add_eq_or_of_lt (i := 8) (b := c.toNat) (by omega) B
  rw [show B * 256 = 2 ^ 8 * B by omega, ← this]
theorem or8' {B : Nat} (c : UInt8) (h : B < 72057594037927936) : bits .or .u64 ((B : Int) * 256) (IntKind.u64.wrap (c.toNat : Int)) = ((B * 256 + c.toNat : Nat) : Int) := by
  have hw : IntKind.u64.wrap ((B : Int) * 256) = (B : Int) * 256 := by simp only [IntKind.wrap, IntKind.signed, IntKind.bits]; simp; omega
  rw [← or8 c h, hw]
theorem flip_back {B : Nat} (h : B < 18446744073709551616) : IntKind.i64.wrap (bits .xor .u64 (B : Int) 9223372036854775808) = (B : Int) - 9223372036854775808 := by
  have := bits_xor_u64_nat B 9223372036854775808 h (by decide)
  have e : ((9223372036854775808 : Nat) : Int) = 9223372036854775808 := rfl
  rw [e] at this
  rw [this]
  have hw : ∀ z, IntKind.i64.wrap z = if 9223372036854775808 ≤ z % 18446744073709551616 then z % 18446744073709551616 - 18446744073709551616 else z % 18446744073709551616 := fun z => by simp [IntKind.wrap, IntKind.signed, IntKind.bits]
  rw [hw]
  by_cases hl : B < 9223372036854775808
  · rw [xor_low B hl]; split <;> omega
  · obtain ⟨b, rfl⟩ : ∃ b, B = b + 9223372036854775808 := ⟨B - 9223372036854775808, by omega⟩
    rw [xor_high b (by omega)]; split <;> omega
/-- The text behind its first bytes. -/
def behind (s : ByteArray) (k : Nat) : ByteArray := ⟨(s.data.toList.drop k).toArray⟩
theorem extract_behind (s : ByteArray) (k : Nat) : s.extract k s.size = behind s k := by
  unfold behind
  have h : (s.extract k s.size).data = (s.data.toList.drop k).toArray := by
    rw [ByteArray.data_extract]
    apply Array.toList_inj.1
    simp
    rw [List.take_of_length_le]
    simp
  cases hx : s.extract k s.size
  rw [hx] at h
  simp only at h
  rw [h]
theorem undrew {w w1 : World} (h : Below w.drew.heap.size w.drew w1) : Below w.heap.size w w1 := ⟨h.os, h.tape, h.output, h.size, h.block⟩
def decI (l : List UInt8) : Int := (beN l : Int) - 9223372036854775808

set_option maxHeartbeats 2000000 in
theorem takeInt_no (s : ByteArray) (h : s.size < 8) (w : World) :
    Calls Try.prog 32 #[.string s] w fun e w' => e = .returned (.tuple #[V 0 0 E0, .string E0, .bool false]) ∧ Below w.heap.size w w' := by
  go_enter Try.func32, Try.ntmps32
  go_wp2
  exact bodyPost_ret (v := .tuple #[V 0 0 E0, .string E0, .bool false]) (by simp [results, Try.results32, go_sem]) rfl ⟨rfl, (Below.refl _ _).alloc (Nat.le_refl _) _⟩

set_option maxHeartbeats 2000000 in
theorem takeInt_yes (s : ByteArray) (h : 8 ≤ s.size) (hs : s.size ≤ 1000000) (w : World) :
    Calls Try.prog 32 #[.string s] w fun e w' => e = .returned (.tuple #[V 2 (decI (pre s 8)) E0, .string (behind s 8), .bool true]) ∧ Below w.heap.size w w' := by
  go_enter Try.func32, Try.ntmps32
  go_wp2
  go_loopw [5, 11] (fun c i wr => ∃ k B : Nat, k ≤ 8 ∧ i = .int .i64 k ∧ c = .int .u64 B ∧ B = beN (pre s k) ∧ wr = w.alloc (.cells #[.int .i64 0, .int .i64 0, .string E0] 33)) (fun _ i _ => 8 - (intOf i).toNat)
  case atStart => exact ⟨0, 0, by omega, rfl, rfl, rfl, rfl⟩
  case round =>
    obtain ⟨k, B, hk, rfl, rfl, hB, rfl⟩ := hrel
    have HB : Hid (B = beN (pre s k)) := hB
    clear hB
    by_cases hlt : k < 8
    · have hks : k < s.size := by omega
      have hBl : B < 72057594037927936 := by
        rw [HB.out]
        refine Nat.lt_of_lt_of_le (beN_lt _) (Nat.le_trans (Nat.pow_le_pow_right (by decide) (show (pre s k).length ≤ 7 from Nat.le_trans (pre_length s k) (by omega))) (by decide))
      have ho := or8 s[k] hBl
      have ho' := or8' s[k] hBl
      have HP : Hid (pre s (k + 1) = pre s k ++ [s[k]]) := pre_succ s k hks
      go_wp2
      go_roundw
      case rel => exact ⟨k + 1, B * 256 + s[k].toNat, by omega, by go_num, by first | rfl | rw [ho] | rw [ho'], by rw [HP.out, beN_snoc, HB.out], by first | rfl | trivial⟩
      case measure => simp [intOf]; omega
    · have hk8 : k = 8 := by omega
      subst hk8
      have hBl : B < 18446744073709551616 := by
        rw [HB.out]
        refine Nat.lt_of_lt_of_le (beN_lt _) (Nat.le_trans (Nat.pow_le_pow_right (by decide) (pre_length s 8)) (by decide))
      have hf := flip_back hBl
      have hex := extract_behind s 8
      have HI : Hid (decI (pre s 8) = (B : Int) - 9223372036854775808) := by show decI _ = _; rw [HB.out]; rfl
      clear hBl
      go_wp2_with fail
      go_region_with (go_at_call 40; refine (int_any _ _).mono ?_; rintro e w1 ⟨rfl, hb1⟩; have hq := bcell hb1)
      all_goals
        go_wp2
        exact bodyPost_ret (v := .tuple #[V 2 ((B : Int) - 9223372036854775808) E0, .string (behind s 8), .bool true]) (by simp [results, Try.results32, go_sem, hq]) rfl ⟨by rw [HI.out], bset3 (bnew (undrew hb1)) (Nat.le_refl _) _ _ _⟩

end Go.Proofs.Ythbmcfbchomckaa
