/- How numbers, bytes, values and rows are told, in plain words. -/
import Derived.Lib.ItoaNum
import Derived.Lib.Itoa
import Derived.Lib.ItoaLen
namespace Go.Proofs.YtcnbbmgclphfdaaDoor
open Go

/-- A number's text. -/
def decB (n : Int) : ByteArray := ⟨(Lib.itoa n).toArray⟩
theorem decB_neg {n : Int} (h : n < 0) : decB n = ⟨#[45]⟩ ++ decB (-n) := by
  unfold decB Lib.itoa
  rw [if_pos h, if_neg (by omega)]
  have : (-n).toNat = n.natAbs := by omega
  rw [this]
  apply ByteArray.ext
  rw [ByteArray.data_append]
  show _ = #[45] ++ _
  rw [show (45 :: Lib.decDigits n.natAbs) = [45] ++ Lib.decDigits n.natAbs from rfl, ← List.append_toArray]
/-- What is still to be told, and what was told. -/
def decAcc (n : Nat) (s : List UInt8) : List UInt8 := if n = 0 ∧ s ≠ [] then s else Lib.decDigits n ++ s
theorem decAcc_start (n : Nat) : decAcc n [] = Lib.decDigits n := by unfold decAcc; simp
theorem decAcc_step {n : Nat} {s : List UInt8} (h : 0 < n ∨ s = []) : decAcc (n / 10) (UInt8.ofNat (48 + n % 10) :: s) = decAcc n s := by
  have h1 : ¬ (n = 0 ∧ s ≠ []) := by rcases h with h | h <;> simp_all <;> omega
  unfold decAcc
  rw [if_neg h1]
  by_cases hs : n < 10
  · rw [if_pos ⟨by omega, by simp⟩, Lib.decDigits, dif_pos hs, Nat.mod_eq_of_lt hs]; rfl
  · rw [if_neg (by omega), Lib.decDigits.eq_1 n, dif_neg hs, List.append_assoc]; rfl
theorem decAcc_end {n : Nat} {s : List UInt8} (h : ¬ 0 < n) (h' : s ≠ []) : decAcc n s = s := by
  unfold decAcc; rw [if_pos ⟨by omega, h'⟩]
theorem decAcc_len (n : Nat) (s : List UInt8) : s.length ≤ (decAcc n s).length := by
  unfold decAcc
  split
  · exact Nat.le_refl _
  · simp
theorem digits_le {n : Nat} (h : n ≤ 9223372036854775808) : (Lib.decDigits n).length ≤ 20 := by
  rw [Lib.decDigits_length]; exact Lib.nDigits_le20 n (by omega)
theorem digits_ne (n : Nat) : Lib.decDigits n ≠ [] := by
  intro h
  have h1 := Lib.decDigits_length n
  have h2 := Lib.nDigits_pos n
  rw [h] at h1
  simp at h1
  omega
theorem mk_cons (c : UInt8) (l : List UInt8) : (⟨#[c]⟩ : ByteArray) ++ ⟨l.toArray⟩ = ⟨(c :: l).toArray⟩ := by
  apply ByteArray.ext
  rw [ByteArray.data_append]
  simp
theorem decB_size {n : Int} (h0 : -9223372036854775808 ≤ n) (h1 : n ≤ 9223372036854775807) : (decB n).size ≤ 21 := by
  have := Lib.itoa_length_le n h0 h1
  simpa [decB, ByteArray.size] using this
theorem decB_least : decB (-9223372036854775808) = ⟨#[45, 57, 50, 50, 51, 51, 55, 50, 48, 51, 54, 56, 53, 52, 55, 55, 53, 56, 48, 56]⟩ := by decide +kernel

end Go.Proofs.YtcnbbmgclphfdaaDoor
