/- Contracts of the document's Find, Texts and Ints. -/
import Derived.Test.YtobbomdknahicaaCore
import Derived.Test.YtobbomdknahicaaLatSpec
namespace Go.Proofs.Ytobbomdknahicaa
open Go.RowKit Go.Sort

set_option maxHeartbeats 1000000 in
theorem refFind_any (w : World) (v : Value) (L : List ByteArray) (s : ByteArray) (hl : LiesS w v L) (hll : L.length ≤ 1000) :
    Calls Try.prog 14 #[v, .string s] w fun e w' => e = .returned (.int .i64 (findI L s)) ∧ Below w.heap.size w w' := by
  obtain ⟨ao, cap, rfl, _, hc⟩ := hl
  go_enter Try.func14, Try.ntmps14
  go_wp2
  go_loopw [5] (fun i wr => ∃ k : Nat, k ≤ L.length ∧ i = .int .i64 k ∧ Below w.heap.size w wr ∧ ∀ j (hj : j < L.length), j < k → L[j] ≠ s) (fun i _ => L.length - (intOf i).toNat)
  case atStart => exact ⟨0, Nat.zero_le _, rfl, Below.refl _ _, fun j _ hj => absurd hj (by omega)⟩
  case round =>
    obtain ⟨k, hkl, rfl, hbel, hno⟩ := hrel
    by_cases h1 : k < L.length
    · obtain ⟨b, off, rfl, g1⟩ := lieS_at hc hbel h1
      have i0 : (0 : Int) ≤ (k : Int) := by omega
      have i1 : (k : Int) < (L.length : Int) := by omega
      have hq := toList_beq L[k] s
      clear hc
      by_cases he : L[k] = s
      · rw [decide_eq_true he] at hq
        have HX : Hid (findI L s = (k : Int)) := findI_some h1 he fun j hj => hno j (by omega) hj
        clear he hno
        go_wp2_with fail
        go_ret
        exact ⟨ret_int HX.out.symm, hbel⟩
      · rw [decide_eq_false he] at hq
        have HX : Hid (∀ j (hj : j < L.length), j < k + 1 → L[j] ≠ s) := fun j hj hjk => by
          by_cases c : j < k
          · exact hno j hj c
          · have : j = k := by omega
            subst this; exact he
        clear he hno
        go_wp2_with fail
        go_roundw
        case rel => exact ⟨k + 1, by omega, by go_num, hbel, HX.out⟩
        case measure => simp [intOf]; omega
    · have HX : Hid (findI L s = -1) := findI_none fun hm => by
        obtain ⟨i, hi, he⟩ := List.getElem_of_mem hm
        exact hno i hi (by omega) he
      clear hno
      have hk : k = L.length := by omega
      subst hk
      go_wp2_with fail
      go_ret
      exact ⟨ret_int HX.out.symm, hbel⟩

theorem list_eq_of {α : Type} {A B : List α} (h : A.length = B.length) (he : ∀ i (ha : i < A.length) (hb : i < B.length), A[i] = B[i]) : A = B := List.ext_getElem h he

set_option maxHeartbeats 1000000 in
theorem refTexts_any (w : World) (v u : Value) (A B : List ByteArray) (ha : LiesS w v A) (hb : LiesS w u B) (hal : A.length ≤ 1000) :
    Calls Try.prog 15 #[v, u] w fun e w' => e = .returned (.bool (decide (A = B))) ∧ Below w.heap.size w w' := by
  obtain ⟨ao, cap, rfl, _, hc⟩ := ha
  obtain ⟨bo, cbp, rfl, _, hd⟩ := hb
  by_cases hlen : A.length = B.length
  · have hlb : ((A.length : Int) != (B.length : Int)) = false := by simp [hlen]
    have HL : Hid (A.length = B.length) := hlen
    clear hlen
    go_enter Try.func15, Try.ntmps15
    go_wp2
    go_loopw [5] (fun i wr => ∃ k : Nat, k ≤ A.length ∧ i = .int .i64 k ∧ Below w.heap.size w wr ∧ ∀ j (ha : j < A.length) (hb : j < B.length), j < k → A[j] = B[j]) (fun i _ => A.length - (intOf i).toNat)
    case atStart => exact ⟨0, Nat.zero_le _, rfl, Below.refl _ _, fun j _ _ hj => absurd hj (by omega)⟩
    case round =>
      obtain ⟨k, hkl, rfl, hbel, hno⟩ := hrel
      by_cases h1 : k < A.length
      · have h2 : k < B.length := by rw [← HL.out]; exact h1
        obtain ⟨b, off, rfl, g1⟩ := lieS_at hc hbel h1
        obtain ⟨b', off', rfl, g2⟩ := lieS_at hd hbel h2
        have i0 : (0 : Int) ≤ (k : Int) := by omega
        have i1 : (k : Int) < (A.length : Int) := by omega
        have i2 : (k : Int) < (B.length : Int) := by omega
        have hq := toList_beq A[k] B[k]
        clear hc hd
        by_cases he : A[k] = B[k]
        · rw [decide_eq_true he] at hq
          have HX : Hid (∀ j (ha : j < A.length) (hb : j < B.length), j < k + 1 → A[j] = B[j]) := fun j ha hb hjk => by
            by_cases c : j < k
            · exact hno j ha hb c
            · have : j = k := by omega
              subst this; exact he
          clear he hno
          go_wp2_with fail
          go_region
          all_goals
            go_wp2_with fail
            go_roundw
            case rel => exact ⟨k + 1, by omega, by go_num, hbel.drew, HX.out⟩
            case measure => simp [intOf]; omega
        · rw [decide_eq_false he] at hq
          have HX : Hid (decide (A = B) = false) := decide_eq_false fun e => he (by subst e; rfl)
          clear he hno
          go_wp2_with fail
          go_region
          all_goals
            go_wp2_with fail
            go_ret
            exact ⟨ret_bool HX.out.symm, hbel.drew⟩
      · have HX : Hid (decide (A = B) = true) := decide_eq_true (list_eq_of HL.out fun i ha hb => hno i ha hb (by omega))
        clear hno
        have hk : k = A.length := by omega
        subst hk
        go_wp2_with fail
        go_ret
        exact ⟨ret_bool HX.out.symm, hbel⟩
  · have hlb : ((A.length : Int) != (B.length : Int)) = true := by simp; omega
    have HX : Hid (decide (A = B) = false) := decide_eq_false fun e => hlen (by rw [e])
    clear hlen hc hd
    go_enter Try.func15, Try.ntmps15
    go_wp2_with fail
    go_ret
    exact ⟨ret_bool HX.out.symm, Below.refl _ _⟩

set_option maxHeartbeats 1000000 in
theorem refInts_any (w : World) (v u : Value) (A B : List Int) (ha : LiesN w v A) (hb : LiesN w u B) (hal : A.length ≤ 1000) :
    Calls Try.prog 27 #[v, u] w fun e w' => e = .returned (.bool (decide (A = B))) ∧ Below w.heap.size w w' := by
  obtain ⟨ao, cap, rfl, _, hc⟩ := ha
  obtain ⟨bo, cbp, rfl, _, hd⟩ := hb
  by_cases hlen : A.length = B.length
  · have hlb : ((A.length : Int) != (B.length : Int)) = false := by simp [hlen]
    have HL : Hid (A.length = B.length) := hlen
    clear hlen
    go_enter Try.func27, Try.ntmps27
    go_wp2
    go_loopw [5] (fun i wr => ∃ k : Nat, k ≤ A.length ∧ i = .int .i64 k ∧ Below w.heap.size w wr ∧ ∀ j (ha : j < A.length) (hb : j < B.length), j < k → A[j] = B[j]) (fun i _ => A.length - (intOf i).toNat)
    case atStart => exact ⟨0, Nat.zero_le _, rfl, Below.refl _ _, fun j _ _ hj => absurd hj (by omega)⟩
    case round =>
      obtain ⟨k, hkl, rfl, hbel, hno⟩ := hrel
      by_cases h1 : k < A.length
      · have h2 : k < B.length := by rw [← HL.out]; exact h1
        obtain ⟨b, off, rfl, g1⟩ := lieN_at hc hbel h1
        obtain ⟨b', off', rfl, g2⟩ := lieN_at hd hbel h2
        have i0 : (0 : Int) ≤ (k : Int) := by omega
        have i1 : (k : Int) < (A.length : Int) := by omega
        have i2 : (k : Int) < (B.length : Int) := by omega
        have hq : (A[k] != B[k]) = !decide (A[k] = B[k]) := by by_cases c : A[k] = B[k] <;> simp [c]
        clear hc hd
        by_cases he : A[k] = B[k]
        · rw [decide_eq_true he] at hq
          have HX : Hid (∀ j (ha : j < A.length) (hb : j < B.length), j < k + 1 → A[j] = B[j]) := fun j ha hb hjk => by
            by_cases c : j < k
            · exact hno j ha hb c
            · have : j = k := by omega
              subst this; exact he
          clear he hno
          go_wp2_with fail
          go_region
          all_goals
            go_wp2_with fail
            go_roundw
            case rel => exact ⟨k + 1, by omega, by go_num, hbel.drew, HX.out⟩
            case measure => simp [intOf]; omega
        · rw [decide_eq_false he] at hq
          have HX : Hid (decide (A = B) = false) := decide_eq_false fun e => he (by subst e; rfl)
          clear he hno
          go_wp2_with fail
          go_region
          all_goals
            go_wp2_with fail
            go_ret
            exact ⟨ret_bool HX.out.symm, hbel.drew⟩
      · have HX : Hid (decide (A = B) = true) := decide_eq_true (list_eq_of HL.out fun i ha hb => hno i ha hb (by omega))
        clear hno
        have hk : k = A.length := by omega
        subst hk
        go_wp2_with fail
        go_ret
        exact ⟨ret_bool HX.out.symm, hbel⟩
  · have hlb : ((A.length : Int) != (B.length : Int)) = true := by simp; omega
    have HX : Hid (decide (A = B) = false) := decide_eq_false fun e => hlen (by rw [e])
    clear hlen hc hd
    go_enter Try.func27, Try.ntmps27
    go_wp2_with fail
    go_ret
    exact ⟨ret_bool HX.out.symm, Below.refl _ _⟩

end Go.Proofs.Ytobbomdknahicaa
