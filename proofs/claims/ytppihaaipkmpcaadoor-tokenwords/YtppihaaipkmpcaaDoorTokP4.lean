/- Contracts of the program's markSize and takeMark. -/
import Derived.Test.YtppihaaipkmpcaaDoorTokP3
namespace Go.Proofs.YtppihaaipkmpcaaDoor
open Go.RowKit Go.Sort

/-- How many bytes the mark has that begins with c, with d behind it. -/
def markC (c d : Nat) : Nat :=
  if c = 124 then (if d = 124 then 2 else 0)
  else if c = 60 then (if d = 62 then 2 else if d = 61 then 2 else 1)
  else if c = 62 then (if d = 61 then 2 else 1)
  else if c = 40 ∨ c = 41 ∨ c = 44 ∨ c = 59 ∨ c = 46 ∨ c = 42 ∨ c = 43 ∨ c = 45 ∨ c = 47 ∨ c = 37 ∨ c = 61 ∨ c = 123 ∨ c = 125 ∨ c = 58 then 1 else 0

theorem mark_cases (c : Nat) : c = 124 ∨ c = 60 ∨ c = 62 ∨ c = 40 ∨ c = 41 ∨ c = 44 ∨ c = 59 ∨ c = 46 ∨ c = 42 ∨ c = 43 ∨ c = 45 ∨ c = 47 ∨ c = 37 ∨ c = 61 ∨ c = 123 ∨ c = 125 ∨ c = 58 ∨ (¬ c = 124 ∧ ¬ c = 60 ∧ ¬ c = 62 ∧ ¬ c = 40 ∧ ¬ c = 41 ∧ ¬ c = 44 ∧ ¬ c = 59 ∧ ¬ c = 46 ∧ ¬ c = 42 ∧ ¬ c = 43 ∧ ¬ c = 45 ∧ ¬ c = 47 ∧ ¬ c = 37 ∧ ¬ c = 61 ∧ ¬ c = 123 ∧ ¬ c = 125 ∧ ¬ c = 58) := by omega

set_option maxRecDepth 100000 in
set_option maxHeartbeats 4000000 in
theorem markSize_any (w : World) (s : ByteArray) (h0 : 0 < s.size) (hs : s.size ≤ 1000000) :
    Calls Tryd.prog 39 #[.string s] w fun e w' => e = .returned (.int .i64 (markC s[0].toNat (if h : 1 < s.size then s[1].toNat else 0) : Int)) ∧ w' = w := by
  have i0 : (0 : Int) < (s.size : Int) := by omega
  by_cases h1 : 1 < s.size
  · have j1 : decide ((1 : Int) < (s.size : Int)) = true := by simp; omega
    have i1 : (1 : Int) < (s.size : Int) := by omega
    simp only [h1, dite_true]
    rcases mark_cases s[0].toNat with hc | hc | hc | hc | hc | hc | hc | hc | hc | hc | hc | hc | hc | hc | hc | hc | hc | hc
    · have k : (s[0].toNat : Int) = 124 := by omega
      by_cases h124 : s[1].toNat = 124
      · have k2 : (s[1].toNat : Int) = 124 := by omega
        have HM : Hid (markC s[0].toNat s[1].toNat = 2) := by show markC _ _ = _; rw [hc, h124]; rfl
        go_enter Tryd.func39, Tryd.ntmps39
        go_wp2_with fail
        go_ret
        exact ⟨HM.out.symm ▸ rfl, rfl⟩
      have n124 : ((s[1].toNat : Int) == 124) = false := by rw [beq_eq_false_iff_ne]; omega
      have HM : Hid (markC s[0].toNat s[1].toNat = 0) := by show markC _ _ = _; rw [hc]; simp [markC, h124]
      clear h124
      go_enter Tryd.func39, Tryd.ntmps39
      go_wp2_with fail
      go_ret
      exact ⟨HM.out.symm ▸ rfl, rfl⟩
    · have k : (s[0].toNat : Int) = 60 := by omega
      by_cases h62 : s[1].toNat = 62
      · have k2 : (s[1].toNat : Int) = 62 := by omega
        have HM : Hid (markC s[0].toNat s[1].toNat = 2) := by show markC _ _ = _; rw [hc, h62]; rfl
        go_enter Tryd.func39, Tryd.ntmps39
        go_wp2_with fail
        go_ret
        exact ⟨HM.out.symm ▸ rfl, rfl⟩
      by_cases h61 : s[1].toNat = 61
      · have k2 : (s[1].toNat : Int) = 61 := by omega
        have HM : Hid (markC s[0].toNat s[1].toNat = 2) := by show markC _ _ = _; rw [hc, h61]; rfl
        go_enter Tryd.func39, Tryd.ntmps39
        go_wp2_with fail
        go_ret
        exact ⟨HM.out.symm ▸ rfl, rfl⟩
      have n62 : ((s[1].toNat : Int) == 62) = false := by rw [beq_eq_false_iff_ne]; omega
      have n61 : ((s[1].toNat : Int) == 61) = false := by rw [beq_eq_false_iff_ne]; omega
      have HM : Hid (markC s[0].toNat s[1].toNat = 1) := by show markC _ _ = _; rw [hc]; simp [markC, h62, h61]
      clear h62 h61
      go_enter Tryd.func39, Tryd.ntmps39
      go_wp2_with fail
      go_ret
      exact ⟨HM.out.symm ▸ rfl, rfl⟩
    · have k : (s[0].toNat : Int) = 62 := by omega
      by_cases h61 : s[1].toNat = 61
      · have k2 : (s[1].toNat : Int) = 61 := by omega
        have HM : Hid (markC s[0].toNat s[1].toNat = 2) := by show markC _ _ = _; rw [hc, h61]; rfl
        go_enter Tryd.func39, Tryd.ntmps39
        go_wp2_with fail
        go_ret
        exact ⟨HM.out.symm ▸ rfl, rfl⟩
      have n61 : ((s[1].toNat : Int) == 61) = false := by rw [beq_eq_false_iff_ne]; omega
      have HM : Hid (markC s[0].toNat s[1].toNat = 1) := by show markC _ _ = _; rw [hc]; simp [markC, h61]
      clear h61
      go_enter Tryd.func39, Tryd.ntmps39
      go_wp2_with fail
      go_ret
      exact ⟨HM.out.symm ▸ rfl, rfl⟩
    · have k : (s[0].toNat : Int) = 40 := by omega
      have HM : Hid (markC s[0].toNat s[1].toNat = 1) := by show markC _ _ = _; rw [hc]; simp [markC]
      go_enter Tryd.func39, Tryd.ntmps39
      go_wp2_with fail
      go_ret
      exact ⟨HM.out.symm ▸ rfl, rfl⟩
    · have k : (s[0].toNat : Int) = 41 := by omega
      have HM : Hid (markC s[0].toNat s[1].toNat = 1) := by show markC _ _ = _; rw [hc]; simp [markC]
      go_enter Tryd.func39, Tryd.ntmps39
      go_wp2_with fail
      go_ret
      exact ⟨HM.out.symm ▸ rfl, rfl⟩
    · have k : (s[0].toNat : Int) = 44 := by omega
      have HM : Hid (markC s[0].toNat s[1].toNat = 1) := by show markC _ _ = _; rw [hc]; simp [markC]
      go_enter Tryd.func39, Tryd.ntmps39
      go_wp2_with fail
      go_ret
      exact ⟨HM.out.symm ▸ rfl, rfl⟩
    · have k : (s[0].toNat : Int) = 59 := by omega
      have HM : Hid (markC s[0].toNat s[1].toNat = 1) := by show markC _ _ = _; rw [hc]; simp [markC]
      go_enter Tryd.func39, Tryd.ntmps39
      go_wp2_with fail
      go_ret
      exact ⟨HM.out.symm ▸ rfl, rfl⟩
    · have k : (s[0].toNat : Int) = 46 := by omega
      have HM : Hid (markC s[0].toNat s[1].toNat = 1) := by show markC _ _ = _; rw [hc]; simp [markC]
      go_enter Tryd.func39, Tryd.ntmps39
      go_wp2_with fail
      go_ret
      exact ⟨HM.out.symm ▸ rfl, rfl⟩
    · have k : (s[0].toNat : Int) = 42 := by omega
      have HM : Hid (markC s[0].toNat s[1].toNat = 1) := by show markC _ _ = _; rw [hc]; simp [markC]
      go_enter Tryd.func39, Tryd.ntmps39
      go_wp2_with fail
      go_ret
      exact ⟨HM.out.symm ▸ rfl, rfl⟩
    · have k : (s[0].toNat : Int) = 43 := by omega
      have HM : Hid (markC s[0].toNat s[1].toNat = 1) := by show markC _ _ = _; rw [hc]; simp [markC]
      go_enter Tryd.func39, Tryd.ntmps39
      go_wp2_with fail
      go_ret
      exact ⟨HM.out.symm ▸ rfl, rfl⟩
    · have k : (s[0].toNat : Int) = 45 := by omega
      have HM : Hid (markC s[0].toNat s[1].toNat = 1) := by show markC _ _ = _; rw [hc]; simp [markC]
      go_enter Tryd.func39, Tryd.ntmps39
      go_wp2_with fail
      go_ret
      exact ⟨HM.out.symm ▸ rfl, rfl⟩
    · have k : (s[0].toNat : Int) = 47 := by omega
      have HM : Hid (markC s[0].toNat s[1].toNat = 1) := by show markC _ _ = _; rw [hc]; simp [markC]
      go_enter Tryd.func39, Tryd.ntmps39
      go_wp2_with fail
      go_ret
      exact ⟨HM.out.symm ▸ rfl, rfl⟩
    · have k : (s[0].toNat : Int) = 37 := by omega
      have HM : Hid (markC s[0].toNat s[1].toNat = 1) := by show markC _ _ = _; rw [hc]; simp [markC]
      go_enter Tryd.func39, Tryd.ntmps39
      go_wp2_with fail
      go_ret
      exact ⟨HM.out.symm ▸ rfl, rfl⟩
    · have k : (s[0].toNat : Int) = 61 := by omega
      have HM : Hid (markC s[0].toNat s[1].toNat = 1) := by show markC _ _ = _; rw [hc]; simp [markC]
      go_enter Tryd.func39, Tryd.ntmps39
      go_wp2_with fail
      go_ret
      exact ⟨HM.out.symm ▸ rfl, rfl⟩
    · have k : (s[0].toNat : Int) = 123 := by omega
      have HM : Hid (markC s[0].toNat s[1].toNat = 1) := by show markC _ _ = _; rw [hc]; simp [markC]
      go_enter Tryd.func39, Tryd.ntmps39
      go_wp2_with fail
      go_ret
      exact ⟨HM.out.symm ▸ rfl, rfl⟩
    · have k : (s[0].toNat : Int) = 125 := by omega
      have HM : Hid (markC s[0].toNat s[1].toNat = 1) := by show markC _ _ = _; rw [hc]; simp [markC]
      go_enter Tryd.func39, Tryd.ntmps39
      go_wp2_with fail
      go_ret
      exact ⟨HM.out.symm ▸ rfl, rfl⟩
    · have k : (s[0].toNat : Int) = 58 := by omega
      have HM : Hid (markC s[0].toNat s[1].toNat = 1) := by show markC _ _ = _; rw [hc]; simp [markC]
      go_enter Tryd.func39, Tryd.ntmps39
      go_wp2_with fail
      go_ret
      exact ⟨HM.out.symm ▸ rfl, rfl⟩
    · have HM : Hid (markC s[0].toNat s[1].toNat = 0) := by show markC _ _ = _; unfold markC; simp only [hc, false_or, if_false]
      have n124 : ((s[0].toNat : Int) == 124) = false := by rw [beq_eq_false_iff_ne]; omega
      have n60 : ((s[0].toNat : Int) == 60) = false := by rw [beq_eq_false_iff_ne]; omega
      have n62 : ((s[0].toNat : Int) == 62) = false := by rw [beq_eq_false_iff_ne]; omega
      have n40 : ((s[0].toNat : Int) == 40) = false := by rw [beq_eq_false_iff_ne]; omega
      have n41 : ((s[0].toNat : Int) == 41) = false := by rw [beq_eq_false_iff_ne]; omega
      have n44 : ((s[0].toNat : Int) == 44) = false := by rw [beq_eq_false_iff_ne]; omega
      have n59 : ((s[0].toNat : Int) == 59) = false := by rw [beq_eq_false_iff_ne]; omega
      have n46 : ((s[0].toNat : Int) == 46) = false := by rw [beq_eq_false_iff_ne]; omega
      have n42 : ((s[0].toNat : Int) == 42) = false := by rw [beq_eq_false_iff_ne]; omega
      have n43 : ((s[0].toNat : Int) == 43) = false := by rw [beq_eq_false_iff_ne]; omega
      have n45 : ((s[0].toNat : Int) == 45) = false := by rw [beq_eq_false_iff_ne]; omega
      have n47 : ((s[0].toNat : Int) == 47) = false := by rw [beq_eq_false_iff_ne]; omega
      have n37 : ((s[0].toNat : Int) == 37) = false := by rw [beq_eq_false_iff_ne]; omega
      have n61 : ((s[0].toNat : Int) == 61) = false := by rw [beq_eq_false_iff_ne]; omega
      have n123 : ((s[0].toNat : Int) == 123) = false := by rw [beq_eq_false_iff_ne]; omega
      have n125 : ((s[0].toNat : Int) == 125) = false := by rw [beq_eq_false_iff_ne]; omega
      have n58 : ((s[0].toNat : Int) == 58) = false := by rw [beq_eq_false_iff_ne]; omega
      clear hc
      go_enter Tryd.func39, Tryd.ntmps39
      go_wp2_with fail
      go_ret
      exact ⟨HM.out.symm ▸ rfl, rfl⟩
  · have j1 : decide ((1 : Int) < (s.size : Int)) = false := by simp; omega
    simp only [h1, dite_false]
    rcases mark_cases s[0].toNat with hc | hc | hc | hc | hc | hc | hc | hc | hc | hc | hc | hc | hc | hc | hc | hc | hc | hc
    · have k : (s[0].toNat : Int) = 124 := by omega
      have HM : Hid (markC s[0].toNat 0 = 0) := by show markC _ _ = _; rw [hc]; simp [markC]
      go_enter Tryd.func39, Tryd.ntmps39
      go_wp2_with fail
      go_ret
      exact ⟨HM.out.symm ▸ rfl, rfl⟩
    · have k : (s[0].toNat : Int) = 60 := by omega
      have HM : Hid (markC s[0].toNat 0 = 1) := by show markC _ _ = _; rw [hc]; simp [markC]
      go_enter Tryd.func39, Tryd.ntmps39
      go_wp2_with fail
      go_ret
      exact ⟨HM.out.symm ▸ rfl, rfl⟩
    · have k : (s[0].toNat : Int) = 62 := by omega
      have HM : Hid (markC s[0].toNat 0 = 1) := by show markC _ _ = _; rw [hc]; simp [markC]
      go_enter Tryd.func39, Tryd.ntmps39
      go_wp2_with fail
      go_ret
      exact ⟨HM.out.symm ▸ rfl, rfl⟩
    · have k : (s[0].toNat : Int) = 40 := by omega
      have HM : Hid (markC s[0].toNat 0 = 1) := by show markC _ _ = _; rw [hc]; simp [markC]
      go_enter Tryd.func39, Tryd.ntmps39
      go_wp2_with fail
      go_ret
      exact ⟨HM.out.symm ▸ rfl, rfl⟩
    · have k : (s[0].toNat : Int) = 41 := by omega
      have HM : Hid (markC s[0].toNat 0 = 1) := by show markC _ _ = _; rw [hc]; simp [markC]
      go_enter Tryd.func39, Tryd.ntmps39
      go_wp2_with fail
      go_ret
      exact ⟨HM.out.symm ▸ rfl, rfl⟩
    · have k : (s[0].toNat : Int) = 44 := by omega
      have HM : Hid (markC s[0].toNat 0 = 1) := by show markC _ _ = _; rw [hc]; simp [markC]
      go_enter Tryd.func39, Tryd.ntmps39
      go_wp2_with fail
      go_ret
      exact ⟨HM.out.symm ▸ rfl, rfl⟩
    · have k : (s[0].toNat : Int) = 59 := by omega
      have HM : Hid (markC s[0].toNat 0 = 1) := by show markC _ _ = _; rw [hc]; simp [markC]
      go_enter Tryd.func39, Tryd.ntmps39
      go_wp2_with fail
      go_ret
      exact ⟨HM.out.symm ▸ rfl, rfl⟩
    · have k : (s[0].toNat : Int) = 46 := by omega
      have HM : Hid (markC s[0].toNat 0 = 1) := by show markC _ _ = _; rw [hc]; simp [markC]
      go_enter Tryd.func39, Tryd.ntmps39
      go_wp2_with fail
      go_ret
      exact ⟨HM.out.symm ▸ rfl, rfl⟩
    · have k : (s[0].toNat : Int) = 42 := by omega
      have HM : Hid (markC s[0].toNat 0 = 1) := by show markC _ _ = _; rw [hc]; simp [markC]
      go_enter Tryd.func39, Tryd.ntmps39
      go_wp2_with fail
      go_ret
      exact ⟨HM.out.symm ▸ rfl, rfl⟩
    · have k : (s[0].toNat : Int) = 43 := by omega
      have HM : Hid (markC s[0].toNat 0 = 1) := by show markC _ _ = _; rw [hc]; simp [markC]
      go_enter Tryd.func39, Tryd.ntmps39
      go_wp2_with fail
      go_ret
      exact ⟨HM.out.symm ▸ rfl, rfl⟩
    · have k : (s[0].toNat : Int) = 45 := by omega
      have HM : Hid (markC s[0].toNat 0 = 1) := by show markC _ _ = _; rw [hc]; simp [markC]
      go_enter Tryd.func39, Tryd.ntmps39
      go_wp2_with fail
      go_ret
      exact ⟨HM.out.symm ▸ rfl, rfl⟩
    · have k : (s[0].toNat : Int) = 47 := by omega
      have HM : Hid (markC s[0].toNat 0 = 1) := by show markC _ _ = _; rw [hc]; simp [markC]
      go_enter Tryd.func39, Tryd.ntmps39
      go_wp2_with fail
      go_ret
      exact ⟨HM.out.symm ▸ rfl, rfl⟩
    · have k : (s[0].toNat : Int) = 37 := by omega
      have HM : Hid (markC s[0].toNat 0 = 1) := by show markC _ _ = _; rw [hc]; simp [markC]
      go_enter Tryd.func39, Tryd.ntmps39
      go_wp2_with fail
      go_ret
      exact ⟨HM.out.symm ▸ rfl, rfl⟩
    · have k : (s[0].toNat : Int) = 61 := by omega
      have HM : Hid (markC s[0].toNat 0 = 1) := by show markC _ _ = _; rw [hc]; simp [markC]
      go_enter Tryd.func39, Tryd.ntmps39
      go_wp2_with fail
      go_ret
      exact ⟨HM.out.symm ▸ rfl, rfl⟩
    · have k : (s[0].toNat : Int) = 123 := by omega
      have HM : Hid (markC s[0].toNat 0 = 1) := by show markC _ _ = _; rw [hc]; simp [markC]
      go_enter Tryd.func39, Tryd.ntmps39
      go_wp2_with fail
      go_ret
      exact ⟨HM.out.symm ▸ rfl, rfl⟩
    · have k : (s[0].toNat : Int) = 125 := by omega
      have HM : Hid (markC s[0].toNat 0 = 1) := by show markC _ _ = _; rw [hc]; simp [markC]
      go_enter Tryd.func39, Tryd.ntmps39
      go_wp2_with fail
      go_ret
      exact ⟨HM.out.symm ▸ rfl, rfl⟩
    · have k : (s[0].toNat : Int) = 58 := by omega
      have HM : Hid (markC s[0].toNat 0 = 1) := by show markC _ _ = _; rw [hc]; simp [markC]
      go_enter Tryd.func39, Tryd.ntmps39
      go_wp2_with fail
      go_ret
      exact ⟨HM.out.symm ▸ rfl, rfl⟩
    · have HM : Hid (markC s[0].toNat 0 = 0) := by show markC _ _ = _; unfold markC; simp only [hc, false_or, if_false]
      have n124 : ((s[0].toNat : Int) == 124) = false := by rw [beq_eq_false_iff_ne]; omega
      have n60 : ((s[0].toNat : Int) == 60) = false := by rw [beq_eq_false_iff_ne]; omega
      have n62 : ((s[0].toNat : Int) == 62) = false := by rw [beq_eq_false_iff_ne]; omega
      have n40 : ((s[0].toNat : Int) == 40) = false := by rw [beq_eq_false_iff_ne]; omega
      have n41 : ((s[0].toNat : Int) == 41) = false := by rw [beq_eq_false_iff_ne]; omega
      have n44 : ((s[0].toNat : Int) == 44) = false := by rw [beq_eq_false_iff_ne]; omega
      have n59 : ((s[0].toNat : Int) == 59) = false := by rw [beq_eq_false_iff_ne]; omega
      have n46 : ((s[0].toNat : Int) == 46) = false := by rw [beq_eq_false_iff_ne]; omega
      have n42 : ((s[0].toNat : Int) == 42) = false := by rw [beq_eq_false_iff_ne]; omega
      have n43 : ((s[0].toNat : Int) == 43) = false := by rw [beq_eq_false_iff_ne]; omega
      have n45 : ((s[0].toNat : Int) == 45) = false := by rw [beq_eq_false_iff_ne]; omega
      have n47 : ((s[0].toNat : Int) == 47) = false := by rw [beq_eq_false_iff_ne]; omega
      have n37 : ((s[0].toNat : Int) == 37) = false := by rw [beq_eq_false_iff_ne]; omega
      have n61 : ((s[0].toNat : Int) == 61) = false := by rw [beq_eq_false_iff_ne]; omega
      have n123 : ((s[0].toNat : Int) == 123) = false := by rw [beq_eq_false_iff_ne]; omega
      have n125 : ((s[0].toNat : Int) == 125) = false := by rw [beq_eq_false_iff_ne]; omega
      have n58 : ((s[0].toNat : Int) == 58) = false := by rw [beq_eq_false_iff_ne]; omega
      clear hc
      go_enter Tryd.func39, Tryd.ntmps39
      go_wp2_with fail
      go_ret
      exact ⟨HM.out.symm ▸ rfl, rfl⟩

end Go.Proofs.YtppihaaipkmpcaaDoor
