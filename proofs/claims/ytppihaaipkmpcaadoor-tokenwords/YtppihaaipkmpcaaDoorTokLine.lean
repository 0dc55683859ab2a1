/- Contract of the document's Line. -/
import Derived.Test.YtppihaaipkmpcaaDoorCore
import Derived.Test.YtppihaaipkmpcaaDoorTokSpec
namespace Go.Proofs.YtppihaaipkmpcaaDoor
open Go.RowKit Go.Sort

theorem byte_at (s : ByteArray) {k : Nat} (h : k < s.size) : s.data.toList.drop k = s[k] :: s.data.toList.drop (k + 1) := by
  have h' : k < s.data.toList.length := by simpa using h
  rw [List.drop_eq_getElem_cons h']
  rfl
theorem byte_take (s : ByteArray) {k : Nat} (h : k < s.size) : s.data.toList.take (k + 1) = s.data.toList.take k ++ [s[k]] := by
  have h' : k < s.data.toList.length := by simpa using h
  rw [List.take_succ_eq_append_getElem h']
  rfl
set_option maxHeartbeats 2000000 in
theorem line_ref (w : World) (s : ByteArray) (hs : s.size ≤ 1000000) (k : Int) : Calls Tryd.prog 8 #[.string s, .int .i64 k] w fun e w' => e = .returned (.tuple #[.int .i64 ((lineS s k).1 : Int), .int .i64 ((lineS s k).2 : Int)]) ∧ Below w.heap.size w w' := by
  have HP : Hid (lineS s k = lineC (s.data.toList.take (placeN s k))) := rfl
  by_cases h0 : k < 0
  · have hp : placeN s k = 0 := by unfold placeN; rw [if_pos h0]
    rw [hp] at HP
    clear hp
    go_enter Tryd.func8, Tryd.ntmps8
    go_wp2_with fail
    go_loopw [6, 7, 8] (fun x y i wr => ∃ j : Nat, j ≤ 0 ∧ i = .int .i64 j ∧ x = .int .i64 ((lineC (s.data.toList.take j)).1 : Int) ∧ y = .int .i64 ((lineC (s.data.toList.take j)).2 : Int) ∧ Below w.heap.size w wr) (fun _ _ i _ => 0 - (intOf i).toNat)
    case atStart => exact ⟨0, Nat.zero_le _, rfl, rfl, rfl, Below.refl _ _⟩
    case round =>
      obtain ⟨j, hj, rfl, rfl, rfl, hbel⟩ := hrel
      have hn1 := lineC_le (s.data.toList.take j)
      rw [List.length_take] at hn1
      by_cases h : j < 0
      · exact absurd h (by omega)
      · have hjp : j = 0 := by omega
        subst hjp
        go_wp2_with fail
        go_ret2
        exact ⟨by rw [HP.out]; rfl, hbel⟩
  by_cases h1 : (s.size : Int) < k
  · have hp : placeN s k = s.size := by unfold placeN; rw [if_neg h0]; omega
    rw [hp] at HP
    clear hp
    go_enter Tryd.func8, Tryd.ntmps8
    go_wp2_with fail
    go_loopw [6, 7, 8] (fun x y i wr => ∃ j : Nat, j ≤ s.size ∧ i = .int .i64 j ∧ x = .int .i64 ((lineC (s.data.toList.take j)).1 : Int) ∧ y = .int .i64 ((lineC (s.data.toList.take j)).2 : Int) ∧ Below w.heap.size w wr) (fun _ _ i _ => s.size - (intOf i).toNat)
    case atStart => exact ⟨0, Nat.zero_le _, rfl, rfl, rfl, Below.refl _ _⟩
    case round =>
      obtain ⟨j, hj, rfl, rfl, rfl, hbel⟩ := hrel
      have hn1 := lineC_le (s.data.toList.take j)
      rw [List.length_take] at hn1
      by_cases h : j < s.size
      · have hjs : j < s.size := by omega
        have HT := lineC_snoc (s.data.toList.take j) s[j]
        rw [← byte_take s hjs] at HT
        generalize lineC (s.data.toList.take j) = ab at HT hn1 ⊢
        obtain ⟨a, b⟩ := ab
        dsimp only at HT hn1 ⊢
        by_cases hc : s[j].toNat = 10
        · have q : ((s[j].toNat : Int) == 10) = true := by rw [hc]; rfl
          rw [if_pos hc] at HT
          have HH : Hid (lineC (s.data.toList.take (j + 1)) = (a + 1, 1)) := HT
          clear HT hc
          go_wp2_with fail
          go_roundw
          case rel => exact ⟨j + 1, by omega, by go_num, by rw [HH.out]; go_num, by rw [HH.out]; rfl, hbel⟩
          case measure => simp [intOf]; omega
        · have q : ((s[j].toNat : Int) == 10) = false := by rw [beq_eq_false_iff_ne]; omega
          rw [if_neg hc] at HT
          have HH : Hid (lineC (s.data.toList.take (j + 1)) = (a, b + 1)) := HT
          clear HT hc
          go_wp2_with fail
          go_roundw
          case rel => exact ⟨j + 1, by omega, by go_num, by rw [HH.out], by rw [HH.out]; go_num, hbel⟩
          case measure => simp [intOf]; omega
      · have hjp : j = s.size := by omega
        subst hjp
        go_wp2_with fail
        go_ret2
        exact ⟨by rw [HP.out]; rfl, hbel⟩
  · have hp : placeN s k = k.toNat := by unfold placeN; rw [if_neg h0]; omega
    rw [hp] at HP
    obtain ⟨p, hkp⟩ : ∃ p : Nat, k = (p : Int) := ⟨k.toNat, by omega⟩
    subst hkp
    rw [Int.toNat_natCast] at HP
    clear hp
    go_enter Tryd.func8, Tryd.ntmps8
    go_wp2_with fail
    go_loopw [6, 7, 8] (fun x y i wr => ∃ j : Nat, j ≤ p ∧ i = .int .i64 j ∧ x = .int .i64 ((lineC (s.data.toList.take j)).1 : Int) ∧ y = .int .i64 ((lineC (s.data.toList.take j)).2 : Int) ∧ Below w.heap.size w wr) (fun _ _ i _ => p - (intOf i).toNat)
    case atStart => exact ⟨0, Nat.zero_le _, rfl, rfl, rfl, Below.refl _ _⟩
    case round =>
      obtain ⟨j, hj, rfl, rfl, rfl, hbel⟩ := hrel
      have hn1 := lineC_le (s.data.toList.take j)
      rw [List.length_take] at hn1
      by_cases h : j < p
      · have hjs : j < s.size := by omega
        have HT := lineC_snoc (s.data.toList.take j) s[j]
        rw [← byte_take s hjs] at HT
        generalize lineC (s.data.toList.take j) = ab at HT hn1 ⊢
        obtain ⟨a, b⟩ := ab
        dsimp only at HT hn1 ⊢
        by_cases hc : s[j].toNat = 10
        · have q : ((s[j].toNat : Int) == 10) = true := by rw [hc]; rfl
          rw [if_pos hc] at HT
          have HH : Hid (lineC (s.data.toList.take (j + 1)) = (a + 1, 1)) := HT
          clear HT hc
          go_wp2_with fail
          go_roundw
          case rel => exact ⟨j + 1, by omega, by go_num, by rw [HH.out]; go_num, by rw [HH.out]; rfl, hbel⟩
          case measure => simp [intOf]; omega
        · have q : ((s[j].toNat : Int) == 10) = false := by rw [beq_eq_false_iff_ne]; omega
          rw [if_neg hc] at HT
          have HH : Hid (lineC (s.data.toList.take (j + 1)) = (a, b + 1)) := HT
          clear HT hc
          go_wp2_with fail
          go_roundw
          case rel => exact ⟨j + 1, by omega, by go_num, by rw [HH.out], by rw [HH.out]; go_num, hbel⟩
          case measure => simp [intOf]; omega
      · have hjp : j = p := by omega
        subst hjp
        go_wp2_with fail
        go_ret2
        exact ⟨by rw [HP.out]; rfl, hbel⟩

end Go.Proofs.YtppihaaipkmpcaaDoor
