/- The walk of TokenPlaces. -/
import Derived.Test.YtppihaaipkmpcaaDoorAlive5
namespace Go.Proofs.YtppihaaipkmpcaaDoor
open Go.RowKit Go.Sort

theorem lineS_nat {s : ByteArray} {i : Nat} (h : i ≤ s.size) : lineS s (i : Int) = lineC (s.data.toList.take i) := by
  unfold lineS placeN
  rw [if_neg (by omega), Int.toNat_natCast, Nat.min_eq_left h]
theorem lineS_past {s : ByteArray} {k : Int} (h : (s.size : Int) ≤ k) : lineS s k = lineC (s.data.toList.take s.size) := by
  unfold lineS placeN
  rw [if_neg (by omega), Nat.min_eq_right (by omega)]
theorem lineC_pos (l : List UInt8) : 1 ≤ (lineC l).1 := by
  have : ∀ (l : List UInt8) (p : Nat × Nat), p.1 ≤ (l.foldl (fun p c => if c.toNat = 10 then (p.1 + 1, 1) else (p.1, p.2 + 1)) p).1 := by
    intro l
    induction l with
    | nil => intro p; exact Nat.le_refl _
    | cons c r ih =>
      intro p
      simp only [List.foldl_cons]
      split
      · exact Nat.le_trans (by simp) (ih (p.1 + 1, 1))
      · exact ih (p.1, p.2 + 1)
  exact this l (1, 1)

set_option maxRecDepth 100000 in
set_option maxHeartbeats 4000000 in
theorem placesW (w : World) (s : ByteArray) : Calls Tryd.prog 5 #[.string s] w fun e w' => e = .returned (.bool true) ∧ Below w.heap.size w w' := by
  by_cases h3 : 3000 < s.size
  · have al := alive5_any w
    go_enter Tryd.func5, Tryd.ntmps5
    go_wp2_with fail
    refine al.mono ?_
    rintro e w1 ⟨rfl, b1⟩
    go_wp2_with fail
    go_ret
    exact ⟨rfl, b1⟩
  have p0 := line_any w s (by omega) 0
  have h0 : lineS s 0 = (1, 1) := lineS_nat (i := 0) (Nat.zero_le _)
  rw [h0] at p0
  clear h0
  go_enter Tryd.func5, Tryd.ntmps5
  go_wp2_with fail
  refine p0.mono ?_
  rintro e w1 ⟨rfl, b1⟩
  clear p0
  go_wp2_with fail
  go_loopw [3, 4, 5, 6] (fun x y z i wr => ∃ j : Nat, j ≤ s.size ∧ i = .int .i64 j ∧ x = .int .i64 ((lineC (s.data.toList.take j)).1 : Int) ∧ y = .int .i64 ((lineC (s.data.toList.take j)).2 : Int) ∧ z = .int .i64 (((lineC (s.data.toList.take j)).1 - 1 : Nat) : Int) ∧ Below w.heap.size w wr) (fun _ _ _ i _ => s.size - (intOf i).toNat)
  case atStart => exact ⟨0, Nat.zero_le _, rfl, rfl, rfl, rfl, b1⟩
  case round =>
    obtain ⟨j, hj, rfl, rfl, rfl, rfl, hbel⟩ := hrel
    have hn1 := lineC_le (s.data.toList.take j)
    have hn0 := lineC_pos (s.data.toList.take j)
    rw [List.length_take] at hn1
    by_cases h : j < s.size
    · have HT := lineC_snoc (s.data.toList.take j) s[j]
      rw [← byte_take s h] at HT
      have pl := line_any wr s (by omega) ((j + 1 : Nat) : Int)
      rw [lineS_nat (by omega)] at pl
      generalize lineC (s.data.toList.take j) = ab at HT hn1 hn0 ⊢
      obtain ⟨a, b⟩ := ab
      dsimp only at HT hn1 hn0 ⊢
      by_cases hc : s[j].toNat = 10
      · have q : ((s[j].toNat : Int) == 10) = true := by rw [hc]; rfl
        rw [if_pos hc] at HT
        have HH : Hid (lineC (s.data.toList.take (j + 1)) = (a + 1, 1)) := HT
        rw [HT] at pl
        dsimp only at pl
        have q2 : (((a + 1 : Nat) : Int) != (a : Int) + 1) = false := by simp
        clear HT hc
        go_wp2_with fail
        refine pl.mono ?_
        rintro e w2 ⟨rfl, b2⟩
        go_wp2_with fail
        go_roundw
        case rel => exact ⟨j + 1, by omega, by go_num, by rw [HH.out]; go_num, by rw [HH.out]; rfl, by rw [HH.out]; go_num, btrans hbel b2⟩
        case measure => simp [intOf]; omega
      · have q : ((s[j].toNat : Int) == 10) = false := by rw [beq_eq_false_iff_ne]; omega
        rw [if_neg hc] at HT
        have HH : Hid (lineC (s.data.toList.take (j + 1)) = (a, b + 1)) := HT
        rw [HT] at pl
        dsimp only at pl
        have q2 : ((a : Int) != (a : Int)) = false := by simp
        have q3 : (((b + 1 : Nat) : Int) != (b : Int) + 1) = false := by simp
        clear HT hc
        go_wp2_with fail
        refine pl.mono ?_
        rintro e w2 ⟨rfl, b2⟩
        go_wp2_with fail
        go_roundw
        case rel => exact ⟨j + 1, by omega, by go_num, by rw [HH.out], by rw [HH.out]; go_num, by rw [HH.out], btrans hbel b2⟩
        case measure => simp [intOf]; omega
    · have hjn : j = s.size := by omega
      subst hjn
      have pl := line_any wr s (by omega) ((s.size : Int) + 7)
      rw [lineS_past (by omega)] at pl
      generalize lineC (s.data.toList.take s.size) = ab at hn1 hn0 pl ⊢
      obtain ⟨a, b⟩ := ab
      dsimp only at hn1 hn0 pl ⊢
      have q1 : ((a : Int) == ((a - 1 : Nat) : Int) + 1) = true := by rw [beq_iff_eq]; omega
      have q2 : ((a : Int) == (a : Int)) = true := by simp
      go_wp2_with fail
      refine pl.mono ?_
      rintro e w2 ⟨rfl, b2⟩
      replace b2 := btrans hbel b2
      go_wp2_with fail
      refine (alive5_any w2).mono ?_
      rintro e w3 ⟨rfl, b3⟩
      go_wp2_with fail
      go_ret
      exact ⟨rfl, btrans b2 b3⟩

theorem places_walk (s : ByteArray) (_ : s.size ≤ maxLen) (w : World) : Calls Tryd.prog 5 #[.string s] w fun e w' => e = .returned (.bool true) ∧ Below w.heap.size w w' := placesW w s

end Go.Proofs.YtppihaaipkmpcaaDoor
