/- Contracts of the error's words, the document's and the program's. -/
import Derived.Test.YtcnbbmgclphfdaaDoorRpMem
namespace Go.Proofs.YtcnbbmgclphfdaaDoor
open Go.RowKit Go.Sort

/-- The word at a place, or, where there is none, another one. -/
def wordS (L : List ByteArray) (k : Int) (o : ByteArray) : ByteArray := if 0 ≤ k ∧ k < L.length then L.getD k.toNat E0 else o
theorem wordS_in {L : List ByteArray} {k : Nat} (h : k < L.length) (o : ByteArray) : wordS L (k : Int) o = L[k] := by
  unfold wordS; rw [if_pos ⟨by omega, by omega⟩]; simp [h]
theorem wordS_out {L : List ByteArray} {k : Int} (h : k < 0 ∨ (L.length : Int) ≤ k) (o : ByteArray) : wordS L k o = o := by
  unfold wordS; rw [if_neg (by omega)]
def whyW : List ByteArray := [⟨#[111, 107]⟩, ⟨#[110, 105, 108]⟩, ⟨#[97, 114, 103, 117, 109, 101, 110, 116]⟩, ⟨#[116, 121, 112, 101]⟩, ⟨#[111, 118, 101, 114, 102, 108, 111, 119]⟩, ⟨#[122, 101, 114, 111]⟩, ⟨#[107, 101, 121]⟩, ⟨#[114, 97, 105, 115, 101]⟩, ⟨#[109, 97, 110, 121]⟩, ⟨#[100, 101, 101, 112]⟩, ⟨#[102, 111, 114, 109]⟩, ⟨#[110, 97, 109, 101]⟩, ⟨#[108, 101, 118, 101, 108]⟩, ⟨#[114, 111, 119, 115]⟩, ⟨#[102, 117, 101, 108]⟩, ⟨#[102, 108, 111, 119]⟩, ⟨#[110, 117, 108, 108]⟩, ⟨#[115, 105, 110, 103, 108, 101]⟩, ⟨#[115, 104, 97, 112, 101]⟩]
/-- An error's words. -/
def whyS (e : Int) : ByteArray := wordS whyW e (⟨#[101, 114, 114, 111, 114, 32]⟩ ++ decB e)

theorem wordAt_any (w : World) (v : Value) (L : List ByteArray) (hv : LiesS w v L) (k : Int) (o : ByteArray) : Calls Tryd.prog 37 #[v, .int .i64 k, .string o] w fun e w' => e = .returned (.string (wordS L k o)) ∧ Below w.heap.size w w' := by
  obtain ⟨ao, cap, rfl, hn, hc⟩ := hv
  by_cases h0 : k < 0
  · have HW : Hid (wordS L k o = o) := wordS_out (.inl h0) o
    go_enter Tryd.func37, Tryd.ntmps37
    go_wp2_with fail
    go_ret
    exact ⟨by rw [HW.out]; rfl, Below.refl _ _⟩
  by_cases h1 : (L.length : Int) ≤ k
  · have HW : Hid (wordS L k o = o) := wordS_out (.inr h1) o
    go_enter Tryd.func37, Tryd.ntmps37
    go_wp2_with fail
    go_ret
    exact ⟨by rw [HW.out]; rfl, Below.refl _ _⟩
  · obtain ⟨j, rfl⟩ : ∃ j : Nat, k = (j : Int) := ⟨k.toNat, by omega⟩
    have hj : j < L.length := by omega
    have HW : Hid (wordS L (j : Int) o = L[j]) := wordS_in hj o
    obtain ⟨b, off, rfl, hcell⟩ := hc j hj
    generalize L[j] = x at HW hcell
    go_enter Tryd.func37, Tryd.ntmps37
    go_wp2_with fail
    go_ret
    exact ⟨by rw [HW.out]; rfl, Below.refl _ _⟩

set_option maxHeartbeats 2000000 in
set_option maxRecDepth 100000 in
theorem why_ref (w : World) (n : Int) (h0 : -9223372036854775808 ≤ n) (h1 : n ≤ 9223372036854775807) : Calls Tryd.prog 20 #[.int .i64 n] w fun e w' => e = .returned (.string (whyS n)) ∧ Below w.heap.size w w' := by
  by_cases hin : 0 ≤ n ∧ n < 19
  · have hcase : n = 0 ∨ n = 1 ∨ n = 2 ∨ n = 3 ∨ n = 4 ∨ n = 5 ∨ n = 6 ∨ n = 7 ∨ n = 8 ∨ n = 9 ∨ n = 10 ∨ n = 11 ∨ n = 12 ∨ n = 13 ∨ n = 14 ∨ n = 15 ∨ n = 16 ∨ n = 17 ∨ n = 18 := by omega
    clear h0 h1 hin
    rcases hcase with rfl | rfl | rfl | rfl | rfl | rfl | rfl | rfl | rfl | rfl | rfl | rfl | rfl | rfl | rfl | rfl | rfl | rfl | rfl
    all_goals
      go_enter Tryd.func20, Tryd.ntmps20
      go_wp2_with fail
      go_ret
      exact ⟨rfl, (Below.refl _ _).alloc (Nat.le_refl _) _⟩
  · have HW : Hid (whyS n = ⟨#[101, 114, 114, 111, 114, 32]⟩ ++ decB n) := wordS_out (by show n < 0 ∨ (19 : Int) ≤ n; omega) _
    have hd := dec_any (w.alloc (.cells #[.string ⟨#[111, 107]⟩, .string ⟨#[110, 105, 108]⟩, .string ⟨#[97, 114, 103, 117, 109, 101, 110, 116]⟩, .string ⟨#[116, 121, 112, 101]⟩, .string ⟨#[111, 118, 101, 114, 102, 108, 111, 119]⟩, .string ⟨#[122, 101, 114, 111]⟩, .string ⟨#[107, 101, 121]⟩, .string ⟨#[114, 97, 105, 115, 101]⟩, .string ⟨#[109, 97, 110, 121]⟩, .string ⟨#[100, 101, 101, 112]⟩, .string ⟨#[102, 111, 114, 109]⟩, .string ⟨#[110, 97, 109, 101]⟩, .string ⟨#[108, 101, 118, 101, 108]⟩, .string ⟨#[114, 111, 119, 115]⟩, .string ⟨#[102, 117, 101, 108]⟩, .string ⟨#[102, 108, 111, 119]⟩, .string ⟨#[110, 117, 108, 108]⟩, .string ⟨#[115, 105, 110, 103, 108, 101]⟩, .string ⟨#[115, 104, 97, 112, 101]⟩] 9)) n h0 h1
    have hs := decB_size h0 h1
    generalize decB n = D at *
    go_enter Tryd.func20, Tryd.ntmps20
    go_wp2_with fail
    all_goals
      refine hd.mono ?_
      rintro e w1 ⟨rfl, b1⟩
      go_wp2_with fail
      go_ret
      exact ⟨by rw [HW.out]; rfl, bnew b1⟩

end Go.Proofs.YtcnbbmgclphfdaaDoor
