/- Contracts of the document's letter, digit, blank, Marks, Words and Word. -/
import Derived.Test.YtppihaaipkmpcaaDoorCore
import Derived.Test.YtppihaaipkmpcaaDoorTokSpec
namespace Go.Proofs.YtppihaaipkmpcaaDoor
open Go.RowKit Go.Sort

theorem beq_nat (n k : Nat) : ((n : Int) == (k : Int)) = (n == k) := by
  rw [Bool.eq_iff_iff, beq_iff_eq, beq_iff_eq]; omega
theorem le_nat (n k : Nat) : decide ((n : Int) ≤ (k : Int)) = decide (n ≤ k) := by
  rw [decide_eq_decide]; omega
theorem words_ref (w : World) : Calls Tryd.prog 9 #[] w fun e w' => ∃ v, e = .returned v ∧ LiesS w' v wordsL ∧ Below w.heap.size w w' := by
  go_enter Tryd.func9, Tryd.ntmps9
  go_wp2_with fail
  go_ret
  exact ⟨_, rfl, (Own1.lit w (wordsL.map .string) rfl (Nat.le_refl _) rfl (by decide)).lies.strings, (Below.refl _ _).alloc (Nat.le_refl _) _⟩
set_option maxHeartbeats 1000000 in
theorem word_ref (w : World) (s : ByteArray) : Calls Tryd.prog 11 #[.string s] w fun e w' => e = .returned (.bool (wordB s)) ∧ Below w.heap.size w w' := by
  obtain ⟨L, hL⟩ : ∃ L, L = wordsL := ⟨_, rfl⟩
  have HW : Hid (wordB s = L.any fun t => decide (t = s)) := by show wordB s = _; rw [hL]; rfl
  have hw := words_ref w
  have hll : L.length ≤ 1000 := by rw [hL]; decide
  rw [← hL] at hw
  clear hL
  go_enter Tryd.func11, Tryd.ntmps11
  go_wp2_with fail
  refine hw.mono ?_
  rintro e w1 ⟨v, rfl, hl, b1⟩
  obtain ⟨ao, cap, rfl, _, hc⟩ := hl
  go_wp2_with fail
  go_loopw [4] (fun i wr => ∃ k : Nat, k ≤ L.length ∧ i = .int .i64 k ∧ Below w1.heap.size w1 wr ∧ ∀ j (hj : j < L.length), j < k → L[j] ≠ s) (fun i _ => L.length - (intOf i).toNat)
  case atStart => exact ⟨0, Nat.zero_le _, rfl, Below.refl _ _, fun j _ hj => absurd hj (by omega)⟩
  case round =>
    obtain ⟨k, hkl, rfl, hbel, hno⟩ := hrel
    by_cases h1 : k < L.length
    · obtain ⟨b, off, rfl, g1⟩ := lieS_at hc hbel h1
      have i0 : (0 : Int) ≤ (k : Int) := by omega
      have i1 : (k : Int) < (L.length : Int) := by omega
      have hq := toList_beq L[k] s
      clear hc
      by_cases he : L[k] = s
      · rw [decide_eq_true he] at hq
        have HX : Hid ((L.any fun t => decide (t = s)) = true) := List.any_eq_true.2 ⟨L[k], List.getElem_mem h1, decide_eq_true he⟩
        clear he hno
        go_wp2_with fail
        go_ret
        exact ⟨ret_bool (by rw [HW.out, HX.out]), btrans b1 hbel⟩
      · rw [decide_eq_false he] at hq
        have HX : Hid (∀ j (hj : j < L.length), j < k + 1 → L[j] ≠ s) := fun j hj hjk => by
          by_cases c : j < k
          · exact hno j hj c
          · have : j = k := by omega
            subst this; exact he
        clear he hno
        go_wp2_with fail
        go_roundw
        case rel => exact ⟨k + 1, by omega, by go_num, hbel, HX.out⟩
        case measure => simp [intOf]; omega
    · have HX : Hid ((L.any fun t => decide (t = s)) = false) := List.any_eq_false.2 fun x hm => by
        obtain ⟨i, hi, rfl⟩ := List.getElem_of_mem hm
        simpa using hno i hi (by omega)
      clear hno
      have hk : k = L.length := by omega
      subst hk
      go_wp2_with fail
      go_ret
      exact ⟨ret_bool (by rw [HW.out, HX.out]), btrans b1 hbel⟩

end Go.Proofs.YtppihaaipkmpcaaDoor
