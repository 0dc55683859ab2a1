/- Contract of the laws' own Few. -/
import Derived.Test.YtobbomdknahicaaCore
import Derived.Test.YtobbomdknahicaaLatSpec
namespace Go.Proofs.Ytobbomdknahicaa
open Go.RowKit Go.Sort

/-- Are levels and edges gone through? -/
def fewB (L : List ByteArray) (E : List (ByteArray × ByteArray)) : Bool :=
  (L.all fun s => decide (s.size ≤ 60)) && (E.all fun e => decide (e.1.size ≤ 60) && decide (e.2.size ≤ 60)) && decide (L.length ≤ 20) && decide (E.length ≤ 80)
theorem few_len {L : List ByteArray} {E : List (ByteArray × ByteArray)} (h : fewB L E = true) : L.length ≤ 20 ∧ E.length ≤ 80 := by
  simp only [fewB, Bool.and_eq_true, decide_eq_true_eq] at h
  exact ⟨h.1.2, h.2⟩
theorem few_s {L : List ByteArray} {E : List (ByteArray × ByteArray)} (h : fewB L E = true) : ∀ s ∈ L, s.size ≤ 1000 := fun s hs => by
  simp only [fewB, Bool.and_eq_true, List.all_eq_true, decide_eq_true_eq] at h
  have := h.1.1.1 s hs
  omega
theorem few_e {L : List ByteArray} {E : List (ByteArray × ByteArray)} (h : fewB L E = true) : ∀ e ∈ E, e.1.size ≤ 1000 ∧ e.2.size ≤ 1000 := fun e he => by
  simp only [fewB, Bool.and_eq_true, List.all_eq_true, decide_eq_true_eq] at h
  have := h.1.1.2 e he
  omega

set_option maxHeartbeats 2000000 in
theorem few_any (w : World) (v u : Value) (L : List ByteArray) (E : List (ByteArray × ByteArray)) (hL : LiesS w v L) (hE : LiesP w u E) (hl : L.length ≤ maxLen) (hel : E.length ≤ maxLen) :
    Calls Try.prog 9 #[v, u] w fun e w' => e = .returned (.bool (fewB L E)) ∧ Below w.heap.size w w' := by
  obtain ⟨ao, cap, rfl, hn0, hc⟩ := hL
  obtain ⟨bo, cbp, rfl, hn1, hd⟩ := hE
  unfold maxLen at hl hel
  clear hn0 hn1
  go_enter Try.func9, Try.ntmps9
  go_wp2_with fail
  go_loopw [11] (fun i wr => ∃ k : Nat, k ≤ L.length ∧ i = .int .i64 k ∧ Below w.heap.size w wr ∧ ∀ c (hc : c < L.length), c < k → L[c].size ≤ 60) (fun i _ => L.length - (intOf i).toNat)
  case atStart => exact ⟨0, Nat.zero_le _, rfl, Below.refl _ _, fun c _ hc => absurd hc (by omega)⟩
  case round =>
    obtain ⟨k, hkl, rfl, hbel, hno⟩ := hrel
    have HN : Hid (∀ c (hc : c < L.length), c < k → L[c].size ≤ 60) := hno
    clear hno
    by_cases hk : k < L.length
    · obtain ⟨b, off, rfl, g1⟩ := lieS_at hc hbel hk
      have i0 : (0 : Int) ≤ (k : Int) := by omega
      have i1 : (k : Int) < (L.length : Int) := by omega
      clear hc hd
      by_cases h60 : 60 < L[k].size
      · have HX : Hid (fewB L E = false) := by
          show fewB L E = false
          have : (L.all fun s => decide (s.size ≤ 60)) = false := by
            cases c : (L.all fun s => decide (s.size ≤ 60)) with
            | false => rfl
            | true =>
              have := List.all_eq_true.1 c L[k] (List.getElem_mem hk)
              simp at this; omega
          unfold fewB
          rw [this]; rfl
        go_wp2_with fail
        go_ret
        exact ⟨ret_bool HX.out.symm, hbel⟩
      · have HX : Hid (∀ c (hc : c < L.length), c < k + 1 → L[c].size ≤ 60) := fun c hc hck => by
          by_cases e : c < k
          · exact HN.out c hc e
          · have : c = k := by omega
            subst this; omega
        go_wp2_with fail
        go_roundw
        case rel => exact ⟨k + 1, by omega, by go_num, hbel, HX.out⟩
        case measure => simp [intOf]; omega
    · have hkn : k = L.length := by omega
      subst hkn
      have HA : Hid ((L.all fun s => decide (s.size ≤ 60)) = true) := List.all_eq_true.2 fun s hs => by
        obtain ⟨i, hi, rfl⟩ := List.getElem_of_mem hs
        simpa using HN.out i hi hi
      clear HN hc
      go_wp2_with fail
      go_loopw [21] (fun i wr => ∃ k : Nat, k ≤ E.length ∧ i = .int .i64 k ∧ Below w.heap.size w wr ∧ ∀ c (hc : c < E.length), c < k → E[c].1.size ≤ 60 ∧ E[c].2.size ≤ 60) (fun i _ => E.length - (intOf i).toNat)
      case atStart => exact ⟨0, Nat.zero_le _, rfl, hbel, fun c _ hc => absurd hc (by omega)⟩
      case round =>
        obtain ⟨wy, rfl⟩ : ∃ x, x = wr := ⟨_, rfl⟩
        obtain ⟨k, hkl, rfl, hby, hno⟩ := hrel
        have HN : Hid (∀ c (hc : c < E.length), c < k → E[c].1.size ≤ 60 ∧ E[c].2.size ≤ 60) := hno
        clear hno
        by_cases hk : k < E.length
        · obtain ⟨b, off, rfl, g1, g2⟩ := lieP_at hd hby hk
          have i0 : (0 : Int) ≤ (k : Int) := by omega
          have i1 : (k : Int) < (E.length : Int) := by omega
          have HF : Hid (¬ (E[k].1.size ≤ 60 ∧ E[k].2.size ≤ 60) → fewB L E = false) := fun h => by
            have : (E.all fun e => decide (e.1.size ≤ 60) && decide (e.2.size ≤ 60)) = false := by
              cases c : (E.all fun e => decide (e.1.size ≤ 60) && decide (e.2.size ≤ 60)) with
              | false => rfl
              | true =>
                have := List.all_eq_true.1 c E[k] (List.getElem_mem hk)
                simp at this; exact absurd this h
            unfold fewB
            rw [this]; simp
          have HG : Hid ((E[k].1.size ≤ 60 ∧ E[k].2.size ≤ 60) → ∀ c (hc : c < E.length), c < k + 1 → E[c].1.size ≤ 60 ∧ E[c].2.size ≤ 60) := fun h c hc hck => by
            by_cases e : c < k
            · exact HN.out c hc e
            · have : c = k := by omega
              subst this; exact h
          clear hd HN
          generalize E[k] = ed at g1 g2 HF HG
          obtain ⟨lo, hi⟩ := ed
          simp only at g1 g2 HF HG
          by_cases h1 : 60 < lo.size
          · have HX : Hid (fewB L E = false) := HF.out (by omega)
            go_wp2_with fail
            go_ret
            exact ⟨ret_bool HX.out.symm, hby.alloc (by have := hby.size; omega) _⟩
          · by_cases h2 : 60 < hi.size
            · have HX : Hid (fewB L E = false) := HF.out (by omega)
              go_wp2_with fail
              go_ret
              exact ⟨ret_bool HX.out.symm, hby.alloc (by have := hby.size; omega) _⟩
            · have HX : Hid (∀ c (hc : c < E.length), c < k + 1 → E[c].1.size ≤ 60 ∧ E[c].2.size ≤ 60) := HG.out (by omega)
              go_wp2_with fail
              go_roundw
              case rel => exact ⟨k + 1, by omega, by go_num, hby.alloc (by have := hby.size; omega) _, HX.out⟩
              case measure => simp [intOf]; omega
        · have hkn : k = E.length := by omega
          subst hkn
          have HB : Hid ((E.all fun e => decide (e.1.size ≤ 60) && decide (e.2.size ≤ 60)) = true) := List.all_eq_true.2 fun s hs => by
            obtain ⟨i, hi, rfl⟩ := List.getElem_of_mem hs
            simpa using HN.out i hi hi
          have HX : Hid (fewB L E = (decide (L.length ≤ 20) && decide (E.length ≤ 80))) := by show fewB L E = _; unfold fewB; rw [HA.out, HB.out]; simp
          clear HN hd
          by_cases h20 : L.length ≤ 20
          · go_wp2_with fail
            go_ret
            exact ⟨ret_bool (by rw [HX.out]; simp [h20]; omega), hby⟩
          · go_wp2_with fail
            go_ret
            exact ⟨ret_bool (by rw [HX.out]; simp [h20]), hby⟩

end Go.Proofs.Ytobbomdknahicaa
