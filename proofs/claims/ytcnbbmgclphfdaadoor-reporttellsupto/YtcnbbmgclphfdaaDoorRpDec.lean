/- Contract of the document's text of a number. -/
import Derived.Test.YtcnbbmgclphfdaaDoorCore2
import Derived.Test.YtcnbbmgclphfdaaDoorRpSpec
namespace Go.Proofs.YtcnbbmgclphfdaaDoor
open Go.RowKit Go.Sort

theorem run_str1 (w : World) (c : UInt8) : (convert 58 9 (.slice (some ⟨w.heap.size, 0, none⟩) 1 1)).run Tryd.prog (w.alloc (.cells #[.int .u8 (c.toNat : Int)] 5)) = .ok (.string ⟨#[c]⟩) (w.alloc (.cells #[.int .u8 (c.toNat : Int)] 5)) := by
  refine run_convert_bytes_back _ 58 9 5 ⟨w.heap.size, 0, none⟩ 1 [c] Tryd.underlying58 Tryd.underlying5 Tryd.underlying9 fun j hj => ?_
  have : j = 0 := by simp at hj; omega
  subst this
  rw [show (⟨w.heap.size, 0, none⟩ : Addr).add 0 = ⟨w.heap.size, 0, none⟩ by unfold Addr.add; split <;> simp_all]
  rw [cell_of_row _ w.heap.size 0 #[.int .u8 (c.toNat : Int)] 5 (0, 0) (heap_alloc_new w _)]
  rfl

/-- How much there is still to do. -/
def mDec (x s : Value) : Nat := 2 * (intOf x).toNat + (match s with | .string b => if b.size = 0 then 1 else 0 | _ => 0)

theorem mDec_cons (k : Int) (c : UInt8) (l : List UInt8) : mDec (.int .i64 k) (.string ⟨(c :: l).toArray⟩) = 2 * k.toNat := by
  simp [mDec, intOf, ByteArray.size]
theorem mDec_le (k : Int) (b : ByteArray) : 2 * k.toNat ≤ mDec (.int .i64 k) (.string b) := by
  simp [mDec, intOf]
theorem mDec_nil (k : Int) : mDec (.int .i64 k) (.string ⟨([] : List UInt8).toArray⟩) = 2 * k.toNat + 1 := by
  simp [mDec, intOf, ByteArray.size]

set_option maxHeartbeats 2000000 in
set_option maxRecDepth 100000 in
theorem dec_nat (w : World) (n : Nat) (hn : n ≤ 9223372036854775807) : Calls Tryd.prog 33 #[.int .i64 (n : Int)] w fun e w' => e = .returned (.string ⟨(Lib.decDigits n).toArray⟩) ∧ Below w.heap.size w w' := by
  have hb1 : ((n : Int) == -9223372036854775808) = false := by rw [beq_eq_false_iff_ne]; omega
  have hb2 : decide ((n : Int) < 0) = false := by simp
  go_enter Tryd.func33, Tryd.ntmps33
  go_wp2_with fail
  clear hb1 hb2
  go_loopw [0, 3] (fun x s wr => ∃ (k : Nat) (l : List UInt8), x = .int .i64 (k : Int) ∧ s = .string ⟨l.toArray⟩ ∧ k ≤ 9223372036854775807 ∧ decAcc k l = Lib.decDigits n ∧ Below w.heap.size w wr) (fun x s _ => mDec x s)
  case atStart => exact ⟨n, [], rfl, rfl, hn, decAcc_start n, Below.refl _ _⟩
  case round =>
    obtain ⟨k, l, rfl, rfl, hk, hacc, hbel⟩ := hrel
    have HA : Hid (decAcc k l = Lib.decDigits n) := hacc
    have hlen : l.length ≤ 20 := by
      have h1 := decAcc_len k l
      have h2 := digits_le (n := n) (by omega)
      rw [hacc] at h1
      omega
    clear hacc hn
    by_cases h0 : 0 < k
    · have hcv := run_str1 wr (UInt8.ofNat (48 + k % 10))
      have hx : (((UInt8.ofNat (48 + k % 10)).toNat : Nat) : Int) = 48 + (k : Int) % 10 := by
        rw [UInt8.toNat_ofNat_of_lt' (by show _ < 256; omega)]; omega
      rw [hx] at hcv
      clear hx
      generalize hc : UInt8.ofNat (48 + k % 10) = c at hcv
      go_wp2_with fail
      go_roundw
      case rel => exact ⟨k / 10, c :: l, by go_num, by rw [mk_cons], by omega, by rw [← hc, decAcc_step (.inl h0)]; exact HA.out, hbel.alloc hbel.size _⟩
      case measure =>
        rw [mk_cons, mDec_cons]
        have := mDec_le (k : Int) ⟨l.toArray⟩
        omega
    · have hk0 : k = 0 := by omega
      subst hk0
      by_cases hl : l = []
      · subst hl
        have hcv := run_str1 wr 48
        rw [show (((48 : UInt8).toNat : Nat) : Int) = 48 from rfl] at hcv
        go_wp2_with fail
        go_roundw
        case rel => exact ⟨0, [48], rfl, rfl, by omega, by rw [← HA.out]; exact decAcc_step (n := 0) (.inr rfl), hbel.alloc hbel.size _⟩
        case measure =>
          have := mDec_nil 0
          have h2 := mDec_cons 0 48 []
          first | omega | (simp [mDec, intOf, ByteArray.size])
      · have HL : Hid (l = Lib.decDigits n) := by
          show l = _
          rw [← HA.out, decAcc_end (by omega) hl]
        have hlb : (l == []) = false := by simpa using hl
        go_wp2_with fail
        go_ret
        exact ⟨by rw [← HL.out]; rfl, hbel⟩

set_option maxRecDepth 100000 in
theorem dec_any (w : World) (n : Int) (h0 : -9223372036854775808 ≤ n) (h1 : n ≤ 9223372036854775807) : Calls Tryd.prog 33 #[.int .i64 n] w fun e w' => e = .returned (.string (decB n)) ∧ Below w.heap.size w w' := by
  by_cases hl : n = -9223372036854775808
  · subst hl
    rw [decB_least]
    go_enter Tryd.func33, Tryd.ntmps33
    go_wp2_with fail
    go_ret
    exact ⟨rfl, Below.refl _ _⟩
  by_cases hn : n < 0
  · obtain ⟨k, hk⟩ : ∃ k : Nat, -n = (k : Int) := ⟨(-n).toNat, by omega⟩
    have hd := dec_nat w k (by omega)
    have he : decB (k : Int) = ⟨(Lib.decDigits k).toArray⟩ := by unfold decB; rw [Lib.itoa_nonneg]
    have hs := digits_le (n := k) (by omega)
    have HE : Hid (decB n = ⟨#[45]⟩ ++ ⟨(Lib.decDigits k).toArray⟩) := by show decB n = _; rw [decB_neg hn, hk, he]
    have hlb : (n == -9223372036854775808) = false := by rw [beq_eq_false_iff_ne]; exact hl
    rw [← hk] at hd
    have hlo : -9223372036854775807 ≤ n := by omega
    clear he hk hl
    generalize Lib.decDigits k = D at *
    go_enter Tryd.func33, Tryd.ntmps33
    go_wp2_with fail
    refine hd.mono ?_
    rintro e w1 ⟨rfl, b1⟩
    go_wp2_with fail
    go_ret
    exact ⟨by rw [HE.out]; rfl, b1⟩
  · obtain ⟨k, rfl⟩ : ∃ k : Nat, n = (k : Int) := ⟨n.toNat, by omega⟩
    have he : decB (k : Int) = ⟨(Lib.decDigits k).toArray⟩ := by unfold decB; rw [Lib.itoa_nonneg]
    rw [he]
    exact dec_nat w k (by omega)

end Go.Proofs.YtcnbbmgclphfdaaDoor
