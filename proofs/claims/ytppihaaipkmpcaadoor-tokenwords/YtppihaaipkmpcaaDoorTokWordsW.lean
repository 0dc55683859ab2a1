/- The walk of TokenWords. -/
import Derived.Test.YtppihaaipkmpcaaDoorAlive5
namespace Go.Proofs.YtppihaaipkmpcaaDoor
open Go.RowKit Go.Sort

theorem words_short : ∀ t ∈ wordsL, t.size ≤ 100 := by decide +kernel
theorem word_mem {t : ByteArray} (h : t ∈ wordsL) : wordB t = true := List.any_eq_true.2 ⟨t, h, decide_eq_true rfl⟩

set_option maxHeartbeats 2000000 in
theorem wordsW (w : World) (name s : ByteArray) (k : Int) (hn : name.size ≤ maxLen) : Calls Tryd.prog 3 #[.string name, .string s, .int .i64 k] w fun e w' => e = .returned (.bool true) ∧ Below w.heap.size w w' := by
  by_cases h21 : 21000 < s.size
  · have al := alive5_any w
    go_enter Tryd.func3, Tryd.ntmps3
    go_wp2_with fail
    refine al.mono ?_
    rintro e w1 ⟨rfl, b1⟩
    go_wp2_with fail
    go_ret
    exact ⟨rfl, b1⟩
  · have p1 := line_any w s (by omega) k
    have p2 := fun w' => line_ref w' s (by omega) k
    obtain ⟨⟨n, m⟩, hA⟩ : ∃ x, x = lineS s k := ⟨_, rfl⟩
    rw [← hA] at p1 p2
    clear hA
    dsimp only at p1 p2
    have q1 : ((n : Int) == (n : Int)) = true := by simp
    have q2 : ((m : Int) == (m : Int)) = true := by simp
    have p3 := fun w' => words_ref w'
    obtain ⟨L, hL⟩ : ∃ L, L = wordsL := ⟨_, rfl⟩
    have p4 : ∀ (w' : World) (t : ByteArray), t ∈ L → Calls Tryd.prog 10 #[.string t] w' fun e w'' => e = .returned (.bool true) ∧ Below w'.heap.size w' w'' := fun w' t ht => by
      rw [hL] at ht
      have := word_any w' t (Nat.le_trans (words_short t ht) (by decide))
      rwa [word_mem ht] at this
    have hll : L.length ≤ 1000 := by rw [hL]; decide
    rw [← hL] at p3
    clear hL
    have p5 := fun w' => word_any w' name hn
    have p6 := fun w' => word_ref w' name
    have q3 : (wordB name == wordB name) = true := by simp
    generalize wordB name = wn at p5 p6 q3
    go_enter Tryd.func3, Tryd.ntmps3
    go_wp2_with fail
    refine p1.mono ?_
    rintro e w1 ⟨rfl, b1⟩
    go_wp2_with fail
    refine (p2 w1).mono ?_
    rintro e w2 ⟨rfl, b2⟩
    replace b2 := btrans b1 b2
    go_wp2_with fail
    refine (p3 w2).mono ?_
    rintro e w3 ⟨v, rfl, hl, b3⟩
    replace b3 := btrans b2 b3
    obtain ⟨ao, cap, rfl, _, hc⟩ := hl
    clear p1 p2 p3 b1 b2
    go_wp2_with fail
    go_loopw [31] (fun i wr => ∃ j : Nat, j ≤ L.length ∧ i = .int .i64 j ∧ Below w3.heap.size w3 wr) (fun i _ => L.length - (intOf i).toNat)
    case atStart => exact ⟨0, Nat.zero_le _, rfl, Below.refl _ _⟩
    case round =>
      obtain ⟨j, hj, rfl, hbel⟩ := hrel
      by_cases hjl : j < L.length
      · obtain ⟨b, off, rfl, g1⟩ := lieS_at hc hbel hjl
        have i0 : (0 : Int) ≤ (j : Int) := by omega
        have i1 : (j : Int) < (L.length : Int) := by omega
        have pw := p4 wr L[j] (List.getElem_mem hjl)
        clear hc
        go_wp2_with fail
        refine pw.mono ?_
        rintro e w4 ⟨rfl, b4⟩
        go_wp2_with fail
        go_roundw
        case rel => exact ⟨j + 1, by omega, by go_num, btrans hbel b4⟩
        case measure => simp [intOf]; omega
      · have hjn : j = L.length := by omega
        subst hjn
        clear hc p4
        go_wp2_with fail
        refine (p5 wr).mono ?_
        rintro e w4 ⟨rfl, b4⟩
        replace b4 := btrans (btrans b3 hbel) b4
        go_wp2_with fail
        refine (p6 w4).mono ?_
        rintro e w5 ⟨rfl, b5⟩
        replace b5 := btrans b4 b5
        go_wp2_with fail
        refine (alive5_any w5).mono ?_
        rintro e w6 ⟨rfl, b6⟩
        go_wp2_with fail
        go_ret
        exact ⟨rfl, btrans b5 b6⟩

theorem words_walk (name s : ByteArray) (k : Int) (hn : name.size ≤ maxLen) (_ : s.size ≤ maxLen) (_ : inR k) (w : World) : Calls Tryd.prog 3 #[.string name, .string s, .int .i64 k] w fun e w' => e = .returned (.bool true) ∧ Below w.heap.size w w' := wordsW w name s k hn

end Go.Proofs.YtppihaaipkmpcaaDoor
