/- Contracts of the program's markSize and takeMark. The library's contracts at this program: each an application of a theorem of the library's. Contracts of the program's takeMark and takeText. Contract of the program's take. -/
import Derived.Test.YtckidlbmoalomaaGreatDoorJ13
import Derived.Shelf.Strings.Builder1
import Derived.Shelf.Strings.Builder2
import Derived.Shelf.LaysM
import Derived.Shelf.Strconv.Clone
import Derived.Shelf.Strings.Search1
import Derived.Shelf.Strings.Search2
import Derived.Shelf.Strings.Search3
import Derived.Shelf.Strings.Count
import Derived.Shelf.Strings.Shaped
import Derived.Shelf.Strings.Prefix
import Derived.Shelf.Strings.Split
import Derived.Shelf.Strings.Replace
import Derived.Shelf.Unicode.DecodeSlow
import Derived.Test.YtckidlbmoalomaaGreatDoorProg


namespace Go.Proofs.YtckidlbmoalomaaGreatDoor
open Go.RowKit Go.Sort

def markC (c d : Nat) : Nat :=
  if c = 124 then (if d = 124 then 2 else 0)
  else if c = 60 then (if d = 62 then 2 else if d = 61 then 2 else 1)
  else if c = 62 then (if d = 61 then 2 else 1)
  else if c = 40 ∨ c = 41 ∨ c = 44 ∨ c = 59 ∨ c = 46 ∨ c = 42 ∨ c = 43 ∨ c = 45 ∨ c = 47 ∨ c = 37 ∨ c = 61 ∨ c = 123 ∨ c = 125 ∨ c = 58 then 1 else 0

theorem mark_cases (c : Nat) : c = 124 ∨ c = 60 ∨ c = 62 ∨ c = 40 ∨ c = 41 ∨ c = 44 ∨ c = 59 ∨ c = 46 ∨ c = 42 ∨ c = 43 ∨ c = 45 ∨ c = 47 ∨ c = 37 ∨ c = 61 ∨ c = 123 ∨ c = 125 ∨ c = 58 ∨ (¬ c = 124 ∧ ¬ c = 60 ∧ ¬ c = 62 ∧ ¬ c = 40 ∧ ¬ c = 41 ∧ ¬ c = 44 ∧ ¬ c = 59 ∧ ¬ c = 46 ∧ ¬ c = 42 ∧ ¬ c = 43 ∧ ¬ c = 45 ∧ ¬ c = 47 ∧ ¬ c = 37 ∧ ¬ c = 61 ∧ ¬ c = 123 ∧ ¬ c = 125 ∧ ¬ c = 58) := by omega

set_option maxRecDepth 100000 in
set_option maxHeartbeats 4000000 in
theorem markSize_any (w : World) (s : ByteArray) (h0 : 0 < s.size) (hs : s.size ≤ 1000000) :
    Calls Tryz.prog 101 #[.string s] w fun e w' => e = .returned (.int .i64 (markC s[0].toNat (if h : 1 < s.size then s[1].toNat else 0) : Int)) ∧ w' = w := by
  have i0 : (0 : Int) < (s.size : Int) := by omega
  by_cases h1 : 1 < s.size
  · have j1 : decide ((1 : Int) < (s.size : Int)) = true := by simp; omega
    have i1 : (1 : Int) < (s.size : Int) := by omega
    simp only [h1, dite_true]
    rcases mark_cases s[0].toNat with hc | hc | hc | hc | hc | hc | hc | hc | hc | hc | hc | hc | hc | hc | hc | hc | hc | hc
    · have k : (s[0].toNat : Int) = 124 := by omega
      by_cases h124 : s[1].toNat = 124
      · have k2 : (s[1].toNat : Int) = 124 := by omega
        have HM : Hid (markC s[0].toNat s[1].toNat = 2) := by show markC _ _ = _; rw [hc, h124]; rfl
        go_enter Tryz.func101, Tryz.ntmps101
        go_wp2_with fail
        go_ret
        exact ⟨HM.out.symm ▸ rfl, rfl⟩
      have n124 : ((s[1].toNat : Int) == 124) = false := by rw [beq_eq_false_iff_ne]; omega
      have HM : Hid (markC s[0].toNat s[1].toNat = 0) := by show markC _ _ = _; rw [hc]; simp [markC, h124]
      clear h124
      go_enter Tryz.func101, Tryz.ntmps101
      go_wp2_with fail
      go_ret
      exact ⟨HM.out.symm ▸ rfl, rfl⟩
    · have k : (s[0].toNat : Int) = 60 := by omega
      by_cases h62 : s[1].toNat = 62
      · have k2 : (s[1].toNat : Int) = 62 := by omega
        have HM : Hid (markC s[0].toNat s[1].toNat = 2) := by show markC _ _ = _; rw [hc, h62]; rfl
        go_enter Tryz.func101, Tryz.ntmps101
        go_wp2_with fail
        go_ret
        exact ⟨HM.out.symm ▸ rfl, rfl⟩
      by_cases h61 : s[1].toNat = 61
      · have k2 : (s[1].toNat : Int) = 61 := by omega
        have HM : Hid (markC s[0].toNat s[1].toNat = 2) := by show markC _ _ = _; rw [hc, h61]; rfl
        go_enter Tryz.func101, Tryz.ntmps101
        go_wp2_with fail
        go_ret
        exact ⟨HM.out.symm ▸ rfl, rfl⟩
      have n62 : ((s[1].toNat : Int) == 62) = false := by rw [beq_eq_false_iff_ne]; omega
      have n61 : ((s[1].toNat : Int) == 61) = false := by rw [beq_eq_false_iff_ne]; omega
      have HM : Hid (markC s[0].toNat s[1].toNat = 1) := by show markC _ _ = _; rw [hc]; simp [markC, h62, h61]
      clear h62 h61
      go_enter Tryz.func101, Tryz.ntmps101
      go_wp2_with fail
      go_ret
      exact ⟨HM.out.symm ▸ rfl, rfl⟩
    · have k : (s[0].toNat : Int) = 62 := by omega
      by_cases h61 : s[1].toNat = 61
      · have k2 : (s[1].toNat : Int) = 61 := by omega
        have HM : Hid (markC s[0].toNat s[1].toNat = 2) := by show markC _ _ = _; rw [hc, h61]; rfl
        go_enter Tryz.func101, Tryz.ntmps101
        go_wp2_with fail
        go_ret
        exact ⟨HM.out.symm ▸ rfl, rfl⟩
      have n61 : ((s[1].toNat : Int) == 61) = false := by rw [beq_eq_false_iff_ne]; omega
      have HM : Hid (markC s[0].toNat s[1].toNat = 1) := by show markC _ _ = _; rw [hc]; simp [markC, h61]
      clear h61
      go_enter Tryz.func101, Tryz.ntmps101
      go_wp2_with fail
      go_ret
      exact ⟨HM.out.symm ▸ rfl, rfl⟩
    · have k : (s[0].toNat : Int) = 40 := by omega
      have HM : Hid (markC s[0].toNat s[1].toNat = 1) := by show markC _ _ = _; rw [hc]; simp [markC]
      go_enter Tryz.func101, Tryz.ntmps101
      go_wp2_with fail
      go_ret
      exact ⟨HM.out.symm ▸ rfl, rfl⟩
    · have k : (s[0].toNat : Int) = 41 := by omega
      have HM : Hid (markC s[0].toNat s[1].toNat = 1) := by show markC _ _ = _; rw [hc]; simp [markC]
      go_enter Tryz.func101, Tryz.ntmps101
      go_wp2_with fail
      go_ret
      exact ⟨HM.out.symm ▸ rfl, rfl⟩
    · have k : (s[0].toNat : Int) = 44 := by omega
      have HM : Hid (markC s[0].toNat s[1].toNat = 1) := by show markC _ _ = _; rw [hc]; simp [markC]
      go_enter Tryz.func101, Tryz.ntmps101
      go_wp2_with fail
      go_ret
      exact ⟨HM.out.symm ▸ rfl, rfl⟩
    · have k : (s[0].toNat : Int) = 59 := by omega
      have HM : Hid (markC s[0].toNat s[1].toNat = 1) := by show markC _ _ = _; rw [hc]; simp [markC]
      go_enter Tryz.func101, Tryz.ntmps101
      go_wp2_with fail
      go_ret
      exact ⟨HM.out.symm ▸ rfl, rfl⟩
    · have k : (s[0].toNat : Int) = 46 := by omega
      have HM : Hid (markC s[0].toNat s[1].toNat = 1) := by show markC _ _ = _; rw [hc]; simp [markC]
      go_enter Tryz.func101, Tryz.ntmps101
      go_wp2_with fail
      go_ret
      exact ⟨HM.out.symm ▸ rfl, rfl⟩
    · have k : (s[0].toNat : Int) = 42 := by omega
      have HM : Hid (markC s[0].toNat s[1].toNat = 1) := by show markC _ _ = _; rw [hc]; simp [markC]
      go_enter Tryz.func101, Tryz.ntmps101
      go_wp2_with fail
      go_ret
      exact ⟨HM.out.symm ▸ rfl, rfl⟩
    · have k : (s[0].toNat : Int) = 43 := by omega
      have HM : Hid (markC s[0].toNat s[1].toNat = 1) := by show markC _ _ = _; rw [hc]; simp [markC]
      go_enter Tryz.func101, Tryz.ntmps101
      go_wp2_with fail
      go_ret
      exact ⟨HM.out.symm ▸ rfl, rfl⟩
    · have k : (s[0].toNat : Int) = 45 := by omega
      have HM : Hid (markC s[0].toNat s[1].toNat = 1) := by show markC _ _ = _; rw [hc]; simp [markC]
      go_enter Tryz.func101, Tryz.ntmps101
      go_wp2_with fail
      go_ret
      exact ⟨HM.out.symm ▸ rfl, rfl⟩
    · have k : (s[0].toNat : Int) = 47 := by omega
      have HM : Hid (markC s[0].toNat s[1].toNat = 1) := by show markC _ _ = _; rw [hc]; simp [markC]
      go_enter Tryz.func101, Tryz.ntmps101
      go_wp2_with fail
      go_ret
      exact ⟨HM.out.symm ▸ rfl, rfl⟩
    · have k : (s[0].toNat : Int) = 37 := by omega
      have HM : Hid (markC s[0].toNat s[1].toNat = 1) := by show markC _ _ = _; rw [hc]; simp [markC]
      go_enter Tryz.func101, Tryz.ntmps101
      go_wp2_with fail
      go_ret
      exact ⟨HM.out.symm ▸ rfl, rfl⟩
    · have k : (s[0].toNat : Int) = 61 := by omega
      have HM : Hid (markC s[0].toNat s[1].toNat = 1) := by show markC _ _ = _; rw [hc]; simp [markC]
      go_enter Tryz.func101, Tryz.ntmps101
      go_wp2_with fail
      go_ret
      exact ⟨HM.out.symm ▸ rfl, rfl⟩
    · have k : (s[0].toNat : Int) = 123 := by omega
      have HM : Hid (markC s[0].toNat s[1].toNat = 1) := by show markC _ _ = _; rw [hc]; simp [markC]
      go_enter Tryz.func101, Tryz.ntmps101
      go_wp2_with fail
      go_ret
      exact ⟨HM.out.symm ▸ rfl, rfl⟩
    · have k : (s[0].toNat : Int) = 125 := by omega
      have HM : Hid (markC s[0].toNat s[1].toNat = 1) := by show markC _ _ = _; rw [hc]; simp [markC]
      go_enter Tryz.func101, Tryz.ntmps101
      go_wp2_with fail
      go_ret
      exact ⟨HM.out.symm ▸ rfl, rfl⟩
    · have k : (s[0].toNat : Int) = 58 := by omega
      have HM : Hid (markC s[0].toNat s[1].toNat = 1) := by show markC _ _ = _; rw [hc]; simp [markC]
      go_enter Tryz.func101, Tryz.ntmps101
      go_wp2_with fail
      go_ret
      exact ⟨HM.out.symm ▸ rfl, rfl⟩
    · have HM : Hid (markC s[0].toNat s[1].toNat = 0) := by show markC _ _ = _; unfold markC; simp only [hc, false_or, if_false]
      have n124 : ((s[0].toNat : Int) == 124) = false := by rw [beq_eq_false_iff_ne]; omega
      have n60 : ((s[0].toNat : Int) == 60) = false := by rw [beq_eq_false_iff_ne]; omega
      have n62 : ((s[0].toNat : Int) == 62) = false := by rw [beq_eq_false_iff_ne]; omega
      have n40 : ((s[0].toNat : Int) == 40) = false := by rw [beq_eq_false_iff_ne]; omega
      have n41 : ((s[0].toNat : Int) == 41) = false := by rw [beq_eq_false_iff_ne]; omega
      have n44 : ((s[0].toNat : Int) == 44) = false := by rw [beq_eq_false_iff_ne]; omega
      have n59 : ((s[0].toNat : Int) == 59) = false := by rw [beq_eq_false_iff_ne]; omega
      have n46 : ((s[0].toNat : Int) == 46) = false := by rw [beq_eq_false_iff_ne]; omega
      have n42 : ((s[0].toNat : Int) == 42) = false := by rw [beq_eq_false_iff_ne]; omega
      have n43 : ((s[0].toNat : Int) == 43) = false := by rw [beq_eq_false_iff_ne]; omega
      have n45 : ((s[0].toNat : Int) == 45) = false := by rw [beq_eq_false_iff_ne]; omega
      have n47 : ((s[0].toNat : Int) == 47) = false := by rw [beq_eq_false_iff_ne]; omega
      have n37 : ((s[0].toNat : Int) == 37) = false := by rw [beq_eq_false_iff_ne]; omega
      have n61 : ((s[0].toNat : Int) == 61) = false := by rw [beq_eq_false_iff_ne]; omega
      have n123 : ((s[0].toNat : Int) == 123) = false := by rw [beq_eq_false_iff_ne]; omega
      have n125 : ((s[0].toNat : Int) == 125) = false := by rw [beq_eq_false_iff_ne]; omega
      have n58 : ((s[0].toNat : Int) == 58) = false := by rw [beq_eq_false_iff_ne]; omega
      clear hc
      go_enter Tryz.func101, Tryz.ntmps101
      go_wp2_with fail
      go_ret
      exact ⟨HM.out.symm ▸ rfl, rfl⟩
  · have j1 : decide ((1 : Int) < (s.size : Int)) = false := by simp; omega
    simp only [h1, dite_false]
    rcases mark_cases s[0].toNat with hc | hc | hc | hc | hc | hc | hc | hc | hc | hc | hc | hc | hc | hc | hc | hc | hc | hc
    · have k : (s[0].toNat : Int) = 124 := by omega
      have HM : Hid (markC s[0].toNat 0 = 0) := by show markC _ _ = _; rw [hc]; simp [markC]
      go_enter Tryz.func101, Tryz.ntmps101
      go_wp2_with fail
      go_ret
      exact ⟨HM.out.symm ▸ rfl, rfl⟩
    · have k : (s[0].toNat : Int) = 60 := by omega
      have HM : Hid (markC s[0].toNat 0 = 1) := by show markC _ _ = _; rw [hc]; simp [markC]
      go_enter Tryz.func101, Tryz.ntmps101
      go_wp2_with fail
      go_ret
      exact ⟨HM.out.symm ▸ rfl, rfl⟩
    · have k : (s[0].toNat : Int) = 62 := by omega
      have HM : Hid (markC s[0].toNat 0 = 1) := by show markC _ _ = _; rw [hc]; simp [markC]
      go_enter Tryz.func101, Tryz.ntmps101
      go_wp2_with fail
      go_ret
      exact ⟨HM.out.symm ▸ rfl, rfl⟩
    · have k : (s[0].toNat : Int) = 40 := by omega
      have HM : Hid (markC s[0].toNat 0 = 1) := by show markC _ _ = _; rw [hc]; simp [markC]
      go_enter Tryz.func101, Tryz.ntmps101
      go_wp2_with fail
      go_ret
      exact ⟨HM.out.symm ▸ rfl, rfl⟩
    · have k : (s[0].toNat : Int) = 41 := by omega
      have HM : Hid (markC s[0].toNat 0 = 1) := by show markC _ _ = _; rw [hc]; simp [markC]
      go_enter Tryz.func101, Tryz.ntmps101
      go_wp2_with fail
      go_ret
      exact ⟨HM.out.symm ▸ rfl, rfl⟩
    · have k : (s[0].toNat : Int) = 44 := by omega
      have HM : Hid (markC s[0].toNat 0 = 1) := by show markC _ _ = _; rw [hc]; simp [markC]
      go_enter Tryz.func101, Tryz.ntmps101
      go_wp2_with fail
      go_ret
      exact ⟨HM.out.symm ▸ rfl, rfl⟩
    · have k : (s[0].toNat : Int) = 59 := by omega
      have HM : Hid (markC s[0].toNat 0 = 1) := by show markC _ _ = _; rw [hc]; simp [markC]
      go_enter Tryz.func101, Tryz.ntmps101
      go_wp2_with fail
      go_ret
      exact ⟨HM.out.symm ▸ rfl, rfl⟩
    · have k : (s[0].toNat : Int) = 46 := by omega
      have HM : Hid (markC s[0].toNat 0 = 1) := by show markC _ _ = _; rw [hc]; simp [markC]
      go_enter Tryz.func101, Tryz.ntmps101
      go_wp2_with fail
      go_ret
      exact ⟨HM.out.symm ▸ rfl, rfl⟩
    · have k : (s[0].toNat : Int) = 42 := by omega
      have HM : Hid (markC s[0].toNat 0 = 1) := by show markC _ _ = _; rw [hc]; simp [markC]
      go_enter Tryz.func101, Tryz.ntmps101
      go_wp2_with fail
      go_ret
      exact ⟨HM.out.symm ▸ rfl, rfl⟩
    · have k : (s[0].toNat : Int) = 43 := by omega
      have HM : Hid (markC s[0].toNat 0 = 1) := by show markC _ _ = _; rw [hc]; simp [markC]
      go_enter Tryz.func101, Tryz.ntmps101
      go_wp2_with fail
      go_ret
      exact ⟨HM.out.symm ▸ rfl, rfl⟩
    · have k : (s[0].toNat : Int) = 45 := by omega
      have HM : Hid (markC s[0].toNat 0 = 1) := by show markC _ _ = _; rw [hc]; simp [markC]
      go_enter Tryz.func101, Tryz.ntmps101
      go_wp2_with fail
      go_ret
      exact ⟨HM.out.symm ▸ rfl, rfl⟩
    · have k : (s[0].toNat : Int) = 47 := by omega
      have HM : Hid (markC s[0].toNat 0 = 1) := by show markC _ _ = _; rw [hc]; simp [markC]
      go_enter Tryz.func101, Tryz.ntmps101
      go_wp2_with fail
      go_ret
      exact ⟨HM.out.symm ▸ rfl, rfl⟩
    · have k : (s[0].toNat : Int) = 37 := by omega
      have HM : Hid (markC s[0].toNat 0 = 1) := by show markC _ _ = _; rw [hc]; simp [markC]
      go_enter Tryz.func101, Tryz.ntmps101
      go_wp2_with fail
      go_ret
      exact ⟨HM.out.symm ▸ rfl, rfl⟩
    · have k : (s[0].toNat : Int) = 61 := by omega
      have HM : Hid (markC s[0].toNat 0 = 1) := by show markC _ _ = _; rw [hc]; simp [markC]
      go_enter Tryz.func101, Tryz.ntmps101
      go_wp2_with fail
      go_ret
      exact ⟨HM.out.symm ▸ rfl, rfl⟩
    · have k : (s[0].toNat : Int) = 123 := by omega
      have HM : Hid (markC s[0].toNat 0 = 1) := by show markC _ _ = _; rw [hc]; simp [markC]
      go_enter Tryz.func101, Tryz.ntmps101
      go_wp2_with fail
      go_ret
      exact ⟨HM.out.symm ▸ rfl, rfl⟩
    · have k : (s[0].toNat : Int) = 125 := by omega
      have HM : Hid (markC s[0].toNat 0 = 1) := by show markC _ _ = _; rw [hc]; simp [markC]
      go_enter Tryz.func101, Tryz.ntmps101
      go_wp2_with fail
      go_ret
      exact ⟨HM.out.symm ▸ rfl, rfl⟩
    · have k : (s[0].toNat : Int) = 58 := by omega
      have HM : Hid (markC s[0].toNat 0 = 1) := by show markC _ _ = _; rw [hc]; simp [markC]
      go_enter Tryz.func101, Tryz.ntmps101
      go_wp2_with fail
      go_ret
      exact ⟨HM.out.symm ▸ rfl, rfl⟩
    · have HM : Hid (markC s[0].toNat 0 = 0) := by show markC _ _ = _; unfold markC; simp only [hc, false_or, if_false]
      have n124 : ((s[0].toNat : Int) == 124) = false := by rw [beq_eq_false_iff_ne]; omega
      have n60 : ((s[0].toNat : Int) == 60) = false := by rw [beq_eq_false_iff_ne]; omega
      have n62 : ((s[0].toNat : Int) == 62) = false := by rw [beq_eq_false_iff_ne]; omega
      have n40 : ((s[0].toNat : Int) == 40) = false := by rw [beq_eq_false_iff_ne]; omega
      have n41 : ((s[0].toNat : Int) == 41) = false := by rw [beq_eq_false_iff_ne]; omega
      have n44 : ((s[0].toNat : Int) == 44) = false := by rw [beq_eq_false_iff_ne]; omega
      have n59 : ((s[0].toNat : Int) == 59) = false := by rw [beq_eq_false_iff_ne]; omega
      have n46 : ((s[0].toNat : Int) == 46) = false := by rw [beq_eq_false_iff_ne]; omega
      have n42 : ((s[0].toNat : Int) == 42) = false := by rw [beq_eq_false_iff_ne]; omega
      have n43 : ((s[0].toNat : Int) == 43) = false := by rw [beq_eq_false_iff_ne]; omega
      have n45 : ((s[0].toNat : Int) == 45) = false := by rw [beq_eq_false_iff_ne]; omega
      have n47 : ((s[0].toNat : Int) == 47) = false := by rw [beq_eq_false_iff_ne]; omega
      have n37 : ((s[0].toNat : Int) == 37) = false := by rw [beq_eq_false_iff_ne]; omega
      have n61 : ((s[0].toNat : Int) == 61) = false := by rw [beq_eq_false_iff_ne]; omega
      have n123 : ((s[0].toNat : Int) == 123) = false := by rw [beq_eq_false_iff_ne]; omega
      have n125 : ((s[0].toNat : Int) == 125) = false := by rw [beq_eq_false_iff_ne]; omega
      have n58 : ((s[0].toNat : Int) == 58) = false := by rw [beq_eq_false_iff_ne]; omega
      clear hc
      go_enter Tryz.func101, Tryz.ntmps101
      go_wp2_with fail
      go_ret
      exact ⟨HM.out.symm ▸ rfl, rfl⟩

end Go.Proofs.YtckidlbmoalomaaGreatDoor


namespace Go.Proofs
open Go.Shelf
def Tryz.laysM316_ren : Go.Shelf.Ren := ⟨fun | 316 => 84 | n => n, fun | 9 => 9 | 3 => 3 | 4 => 4 | 37 => 127 | 0 => 0 | 127 => 128 | 5 => 5 | n => n, fun | n => n⟩
theorem Tryz.laysM316 : Go.Proofs.LaysM.n316 Tryz.prog Tryz.laysM316_ren := {
  mixed := by kernel_rfl
  f316 := Tryz.func84.trans (congrArg some (by kernel_rfl))
  t0 := Tryz.underlying0
  a0 := Tryz.isAgg0
  z0 := Tryz.sizeOf0
  v0 := Tryz.zeroValue0
  t3 := Tryz.underlying3
  a3 := Tryz.isAgg3
  z3 := Tryz.sizeOf3
  v3 := Tryz.zeroValue3
  t4 := Tryz.underlying4
  a4 := Tryz.isAgg4
  z4 := Tryz.sizeOf4
  v4 := Tryz.zeroValue4
  t9 := Tryz.underlying9
  a9 := Tryz.isAgg9
  z9 := Tryz.sizeOf9
  v9 := Tryz.zeroValue9
  t37 := Tryz.underlying127
  a37 := Tryz.isAgg127
  z37 := Tryz.sizeOf127
  v37 := Tryz.zeroValue127
  t127 := Tryz.underlying128
  a127 := Tryz.isAgg128
  z127 := Tryz.sizeOf128
  v127 := Tryz.zeroValue128
  t5 := Tryz.underlying5
  a5 := Tryz.isAgg5
  z5 := Tryz.sizeOf5
  v5 := Tryz.zeroValue5
  i0 := by kernel_rfl
  i3 := by kernel_rfl
  i4 := by kernel_rfl
  i5 := by kernel_rfl
  i9 := by kernel_rfl
  i37 := by kernel_rfl
  i127 := by kernel_rfl }
open Go.RowKit in
theorem Tryz.stringslite_Clone (s : ByteArray) (w : World) (hlim : s.size ≤ 281474976710656) :
    Calls Tryz.prog 84 #[.string s] w fun e w' => e = .returned (.string s) ∧ Below w.heap.size w w' := Any.stringslite_Clone Tryz.laysM316 s w hlim
def Tryz.laysM138_ren : Go.Shelf.Ren := ⟨fun | 138 => 114 | 195 => 121 | 218 => 122 | 143 => 116 | 219 => 125 | 217 => 130 | 225 => 131 | 224 => 132 | 267 => 133 | 266 => 138 | 314 => 139 | n => n, fun | 9 => 9 | 3 => 3 | 4 => 4 | 5 => 5 | 0 => 0 | 46 => 151 | 146 => 157 | 51 => 156 | n => n, fun | 1 => 0 | n => n⟩
theorem Tryz.laysM138 : Go.Proofs.LaysM.n138 Tryz.prog Tryz.laysM138_ren := {
  mixed := by kernel_rfl
  f138 := Tryz.func114.trans (congrArg some (by kernel_rfl))
  f143 := Tryz.func116.trans (congrArg some (by kernel_rfl))
  f195 := Tryz.func121.trans (congrArg some (by kernel_rfl))
  f217 := Tryz.func130.trans (congrArg some (by kernel_rfl))
  f218 := Tryz.func122.trans (congrArg some (by kernel_rfl))
  f219 := Tryz.func125.trans (congrArg some (by kernel_rfl))
  f224 := Tryz.func132.trans (congrArg some (by kernel_rfl))
  f225 := Tryz.func131.trans (congrArg some (by kernel_rfl))
  f266 := Tryz.func138.trans (congrArg some (by kernel_rfl))
  f267 := Tryz.func133.trans (congrArg some (by kernel_rfl))
  f314 := Tryz.func139.trans (congrArg some (by kernel_rfl))
  t0 := Tryz.underlying0
  a0 := Tryz.isAgg0
  z0 := Tryz.sizeOf0
  v0 := Tryz.zeroValue0
  t3 := Tryz.underlying3
  a3 := Tryz.isAgg3
  z3 := Tryz.sizeOf3
  v3 := Tryz.zeroValue3
  t4 := Tryz.underlying4
  a4 := Tryz.isAgg4
  z4 := Tryz.sizeOf4
  v4 := Tryz.zeroValue4
  t5 := Tryz.underlying5
  a5 := Tryz.isAgg5
  z5 := Tryz.sizeOf5
  v5 := Tryz.zeroValue5
  t9 := Tryz.underlying9
  a9 := Tryz.isAgg9
  z9 := Tryz.sizeOf9
  v9 := Tryz.zeroValue9
  t46 := Tryz.underlying151
  a46 := Tryz.isAgg151
  z46 := Tryz.sizeOf151
  v46 := Tryz.zeroValue151
  t51 := Tryz.underlying156
  a51 := Tryz.isAgg156
  z51 := Tryz.sizeOf156
  v51 := Tryz.zeroValue156
  t146 := Tryz.underlying157
  a146 := Tryz.isAgg157
  z146 := Tryz.sizeOf157
  v146 := Tryz.zeroValue157
  g1 := by kernel_rfl
  i0 := by kernel_rfl
  i3 := by kernel_rfl
  i4 := by kernel_rfl
  i5 := by kernel_rfl
  i9 := by kernel_rfl
  i46 := by kernel_rfl
  i51 := by kernel_rfl
  i146 := by kernel_rfl
  m1 := by kernel_rfl
  s1_3 := fun w h => Go.Proofs.cell_of_shapedOpen_int (zero := #[.int .i64 0]) (t := 3) h (of_decide_eq_true (by kernel_rfl)) (by kernel_rfl) rfl (by kernel_rfl) (by kernel_rfl) Tryz.underlying3 }
def Tryz.lays99_ren : Go.Shelf.Ren := ⟨fun | 99 => 44 | 206 => 77 | n => n, fun | 9 => 9 | 4 => 4 | 3 => 3 | n => n, fun | n => n⟩
theorem Tryz.lays99 : Go.Proofs.Lays.n99 Tryz.prog Tryz.lays99_ren := {
  mixed := by kernel_rfl
  f99 := Tryz.func44.trans (congrArg some (by kernel_rfl))
  f206 := Tryz.func77.trans (congrArg some (by kernel_rfl))
  t3 := Tryz.underlying3
  a3 := Tryz.isAgg3
  z3 := Tryz.sizeOf3
  v3 := Tryz.zeroValue3
  t4 := Tryz.underlying4
  a4 := Tryz.isAgg4
  z4 := Tryz.sizeOf4
  v4 := Tryz.zeroValue4
  t9 := Tryz.underlying9
  a9 := Tryz.isAgg9
  z9 := Tryz.sizeOf9
  v9 := Tryz.zeroValue9 }
open Go.RowKit Go.Lib in
theorem Tryz.strings_HasPrefix (s p : ByteArray) (w : World) :
    Calls Tryz.prog 44 #[.string s, .string p] w fun e w' => e = .returned (.bool (Lib.hasPrefix s.data.toList p.data.toList)) ∧ w' = w := Any.strings_HasPrefix Tryz.lays99 s p w
def Tryz.lays155_ren : Go.Shelf.Ren := ⟨fun | 155 => 99 | 154 => 109 | 138 => 114 | 165 => 115 | 143 => 116 | 166 => 117 | 197 => 118 | 169 => 119 | 195 => 121 | 218 => 122 | 240 => 123 | 241 => 124 | 219 => 125 | 260 => 126 | 276 => 128 | 277 => 129 | 217 => 130 | 225 => 131 | 224 => 132 | 267 => 133 | 266 => 138 | 314 => 139 | n => n, fun | 9 => 9 | 3 => 3 | 4 => 4 | 72 => 138 | 0 => 0 | 76 => 142 | 105 => 144 | 21 => 21 | 5 => 5 | 70 => 136 | 20 => 20 | 37 => 127 | 75 => 141 | 127 => 128 | 164 => 147 | 46 => 151 | 119 => 152 | 139 => 155 | 138 => 154 | 146 => 157 | 51 => 156 | 80 => 98 | n => n, fun | 1 => 0 | 3 => 1 | 4 => 2 | n => n⟩
theorem Tryz.lays155 : Go.Proofs.Lays.n155 Tryz.prog Tryz.lays155_ren := {
  mixed := by kernel_rfl
  f138 := Tryz.func114.trans (congrArg some (by kernel_rfl))
  f143 := Tryz.func116.trans (congrArg some (by kernel_rfl))
  f154 := Tryz.func109.trans (congrArg some (by kernel_rfl))
  f155 := Tryz.func99.trans (congrArg some (by kernel_rfl))
  f165 := Tryz.func115.trans (congrArg some (by kernel_rfl))
  f166 := Tryz.func117.trans (congrArg some (by kernel_rfl))
  f169 := Tryz.func119.trans (congrArg some (by kernel_rfl))
  f195 := Tryz.func121.trans (congrArg some (by kernel_rfl))
  f197 := Tryz.func118.trans (congrArg some (by kernel_rfl))
  f217 := Tryz.func130.trans (congrArg some (by kernel_rfl))
  f218 := Tryz.func122.trans (congrArg some (by kernel_rfl))
  f219 := Tryz.func125.trans (congrArg some (by kernel_rfl))
  f224 := Tryz.func132.trans (congrArg some (by kernel_rfl))
  f225 := Tryz.func131.trans (congrArg some (by kernel_rfl))
  f240 := Tryz.func123.trans (congrArg some (by kernel_rfl))
  f241 := Tryz.func124.trans (congrArg some (by kernel_rfl))
  f260 := Tryz.func126.trans (congrArg some (by kernel_rfl))
  f266 := Tryz.func138.trans (congrArg some (by kernel_rfl))
  f267 := Tryz.func133.trans (congrArg some (by kernel_rfl))
  f276 := Tryz.func128.trans (congrArg some (by kernel_rfl))
  f277 := Tryz.func129.trans (congrArg some (by kernel_rfl))
  f314 := Tryz.func139.trans (congrArg some (by kernel_rfl))
  t0 := Tryz.underlying0
  a0 := Tryz.isAgg0
  z0 := Tryz.sizeOf0
  v0 := Tryz.zeroValue0
  t3 := Tryz.underlying3
  a3 := Tryz.isAgg3
  z3 := Tryz.sizeOf3
  v3 := Tryz.zeroValue3
  t4 := Tryz.underlying4
  a4 := Tryz.isAgg4
  z4 := Tryz.sizeOf4
  v4 := Tryz.zeroValue4
  t5 := Tryz.underlying5
  a5 := Tryz.isAgg5
  z5 := Tryz.sizeOf5
  v5 := Tryz.zeroValue5
  t9 := Tryz.underlying9
  a9 := Tryz.isAgg9
  z9 := Tryz.sizeOf9
  v9 := Tryz.zeroValue9
  t20 := Tryz.underlying20
  a20 := Tryz.isAgg20
  z20 := Tryz.sizeOf20
  v20 := Tryz.zeroValue20
  t21 := Tryz.underlying21
  a21 := Tryz.isAgg21
  z21 := Tryz.sizeOf21
  v21 := Tryz.zeroValue21
  t37 := Tryz.underlying127
  a37 := Tryz.isAgg127
  z37 := Tryz.sizeOf127
  v37 := Tryz.zeroValue127
  t46 := Tryz.underlying151
  a46 := Tryz.isAgg151
  z46 := Tryz.sizeOf151
  v46 := Tryz.zeroValue151
  t51 := Tryz.underlying156
  a51 := Tryz.isAgg156
  z51 := Tryz.sizeOf156
  v51 := Tryz.zeroValue156
  t70 := Tryz.underlying136
  a70 := Tryz.isAgg136
  z70 := Tryz.sizeOf136
  v70 := Tryz.zeroValue136
  t72 := Tryz.underlying138
  a72 := Tryz.isAgg138
  z72 := Tryz.sizeOf138
  v72 := Tryz.zeroValue138
  t75 := Tryz.underlying141
  a75 := Tryz.isAgg141
  z75 := Tryz.sizeOf141
  v75 := Tryz.zeroValue141
  t76 := Tryz.underlying142
  a76 := Tryz.isAgg142
  z76 := Tryz.sizeOf142
  v76 := Tryz.zeroValue142
  t105 := Tryz.underlying144
  a105 := Tryz.isAgg144
  z105 := Tryz.sizeOf144
  v105 := Tryz.zeroValue144
  t119 := Tryz.underlying152
  a119 := Tryz.isAgg152
  z119 := Tryz.sizeOf152
  t127 := Tryz.underlying128
  a127 := Tryz.isAgg128
  z127 := Tryz.sizeOf128
  v127 := Tryz.zeroValue128
  t138 := Tryz.underlying154
  a138 := Tryz.isAgg154
  z138 := Tryz.sizeOf154
  v138 := Tryz.zeroValue154
  t139 := Tryz.underlying155
  a139 := Tryz.isAgg155
  z139 := Tryz.sizeOf155
  v139 := Tryz.zeroValue155
  t146 := Tryz.underlying157
  a146 := Tryz.isAgg157
  z146 := Tryz.sizeOf157
  v146 := Tryz.zeroValue157
  t164 := Tryz.underlying147
  a164 := Tryz.isAgg147
  z164 := Tryz.sizeOf147
  v164 := Tryz.zeroValue147
  g1 := by kernel_rfl
  g3 := by kernel_rfl
  g4 := by kernel_rfl }
theorem Tryz.Builder_Extra_155 : Builder.Extra Tryz.prog Tryz.lays155_ren := {
  sizeBuilder := by kernel_rfl
  liesBuilder := by kernel_rfl
  t5 := Tryz.underlying5
  a5 := Tryz.isAgg5
  z5 := Tryz.sizeOf5
  v5 := Tryz.zeroValue5
  infoByte := by kernel_rfl
  cellsByte := by kernel_rfl
  sizeByte := by kernel_rfl
  neB5 := by decide }
open Go.RowKit Go.Lib in
theorem Tryz.strings_ReplaceAll (s old new : ByteArray) (m : Int) (w : World) (hs : s.size < 4294967281) (hm : w.cell? ⟨0, 0, none⟩ = some (.int .i64 m)) (h1 : 1 ≤ old.size) (hlen : s.size + Lib.countB s old * new.size ≤ 140737488355328) :
    Calls Tryz.prog 99 #[.string s, .string old, .string new] w fun e w' =>
      e = .returned (.string ⟨(Lib.replaceAll s.data.toList old.data.toList new.data.toList).toArray⟩) ∧ Below w.heap.size w w' := Any.strings_ReplaceAll Tryz.lays155 Tryz.Builder_Extra_155 s old new m w hs hm h1 hlen
end Go.Proofs


namespace Go.Proofs.YtckidlbmoalomaaGreatDoor
open Go.RowKit Go.Sort

def secondN : List UInt8 → Nat
  | [] => 0
  | x :: _ => x.toNat
theorem byte_ne {c : UInt8} {k : Nat} (h : ¬ c.toNat = k) (hk : k < 256) : (UInt8.ofNat k == c) = false := by
  rw [beq_eq_false_iff_ne]
  intro e
  apply h
  rw [← e]
  simp; omega
theorem byte_is {c : UInt8} {k : Nat} (h : c.toNat = k) : c = UInt8.ofNat k := by
  subst h; simp
theorem find_mark (c : UInt8) (r : List UInt8) : marksL.find? (fun m => m.isPrefixOf (c :: r)) = if markC c.toNat (secondN r) = 0 then none else some ((c :: r).take (markC c.toNat (secondN r))) := by
  rcases mark_cases c.toNat with h | h | h | h | h | h | h | h | h | h | h | h | h | h | h | h | h | h
  · have hc := byte_is h; subst hc
    cases r with
    | nil => rfl
    | cons x q =>
      by_cases hx : x.toNat = 124
      · have := byte_is hx; subst this; rfl
      · have e : ((124 : UInt8) == x) = false := byte_ne hx (by decide)
        have e2 : markC (UInt8.ofNat 124).toNat (secondN (x :: q)) = 0 := by show markC 124 x.toNat = 0; simp [markC, hx]
        rw [e2]
        simp [marksL, List.find?, List.isPrefixOf, e]
  · have hc := byte_is h; subst hc
    cases r with
    | nil => rfl
    | cons x q =>
      by_cases hx : x.toNat = 62
      · have := byte_is hx; subst this; rfl
      · by_cases hy : x.toNat = 61
        · have := byte_is hy; subst this; rfl
        · have e : ((62 : UInt8) == x) = false := byte_ne hx (by decide)
          have e' : ((61 : UInt8) == x) = false := byte_ne hy (by decide)
          have e2 : markC (UInt8.ofNat 60).toNat (secondN (x :: q)) = 1 := by show markC 60 x.toNat = 1; simp [markC, hx, hy]
          rw [e2]
          simp [marksL, List.find?, List.isPrefixOf, e, e']
  · have hc := byte_is h; subst hc
    cases r with
    | nil => rfl
    | cons x q =>
      by_cases hy : x.toNat = 61
      · have := byte_is hy; subst this; rfl
      · have e' : ((61 : UInt8) == x) = false := byte_ne hy (by decide)
        have e2 : markC (UInt8.ofNat 62).toNat (secondN (x :: q)) = 1 := by show markC 62 x.toNat = 1; simp [markC, hy]
        rw [e2]
        simp [marksL, List.find?, List.isPrefixOf, e']
  iterate 14
    · have hc := byte_is h; subst hc
      rfl
  · have e2 : markC c.toNat (secondN r) = 0 := by unfold markC; simp only [h, false_or, if_false]
    rw [e2, if_pos rfl]
    have hall : ∀ m ∈ marksL, ∃ k q, m = UInt8.ofNat k :: q ∧ k < 256 ∧ (k = 124 ∨ k = 60 ∨ k = 62 ∨ k = 40 ∨ k = 41 ∨ k = 44 ∨ k = 59 ∨ k = 46 ∨ k = 42 ∨ k = 43 ∨ k = 45 ∨ k = 47 ∨ k = 37 ∨ k = 61 ∨ k = 123 ∨ k = 125 ∨ k = 58) := by
      intro m hm
      simp only [marksL, List.mem_cons, List.not_mem_nil, or_false] at hm
      rcases hm with rfl | rfl | rfl | rfl | rfl | rfl | rfl | rfl | rfl | rfl | rfl | rfl | rfl | rfl | rfl | rfl | rfl | rfl | rfl | rfl
      · exact ⟨124, _, rfl, by decide, by decide⟩
      · exact ⟨60, _, rfl, by decide, by decide⟩
      · exact ⟨60, _, rfl, by decide, by decide⟩
      · exact ⟨62, _, rfl, by decide, by decide⟩
      · exact ⟨40, _, rfl, by decide, by decide⟩
      · exact ⟨41, _, rfl, by decide, by decide⟩
      · exact ⟨44, _, rfl, by decide, by decide⟩
      · exact ⟨59, _, rfl, by decide, by decide⟩
      · exact ⟨46, _, rfl, by decide, by decide⟩
      · exact ⟨42, _, rfl, by decide, by decide⟩
      · exact ⟨43, _, rfl, by decide, by decide⟩
      · exact ⟨45, _, rfl, by decide, by decide⟩
      · exact ⟨47, _, rfl, by decide, by decide⟩
      · exact ⟨37, _, rfl, by decide, by decide⟩
      · exact ⟨61, _, rfl, by decide, by decide⟩
      · exact ⟨60, _, rfl, by decide, by decide⟩
      · exact ⟨62, _, rfl, by decide, by decide⟩
      · exact ⟨123, _, rfl, by decide, by decide⟩
      · exact ⟨125, _, rfl, by decide, by decide⟩
      · exact ⟨58, _, rfl, by decide, by decide⟩
    rw [List.find?_eq_none]
    intro m hm hp
    obtain ⟨k, q, rfl, hk, hor⟩ := hall m hm
    rw [List.isPrefixOf] at hp
    have hne : ¬ c.toNat = k := by omega
    rw [byte_ne hne hk] at hp
    simp at hp

theorem byte_head (s : ByteArray) (h : 0 < s.size) : s.data.toList = s[0] :: s.data.toList.drop 1 := by
  have := byte_at s h
  simpa using this
theorem second_at (s : ByteArray) : secondN (s.data.toList.drop 1) = if h : 1 < s.size then s[1].toNat else 0 := by
  by_cases h : 1 < s.size
  · rw [dif_pos h, byte_at s h]; rfl
  · rw [dif_neg h, List.drop_eq_nil_of_le (by simp; omega)]; rfl
def markL (l : List UInt8) : (Int × List UInt8 × Nat × Nat) ⊕ Nat := match marksL.find? (fun m => m.isPrefixOf l) with
  | some m => .inl (4, m, 0, m.length)
  | none => .inr 0
set_option maxHeartbeats 1000000 in
theorem takeMark_any (w : World) (s : ByteArray) (h0 : 0 < s.size) (hs : s.size ≤ 1000000) :
    Calls Tryz.prog 83 #[.string s] w fun e w' => e = .returned (takeV (markL s.data.toList)) ∧ Below w.heap.size w w' := by
  have a1 := markSize_any (w.alloc (.cells #[.int .i64 0, .string ⟨#[]⟩, .int .i64 0, .int .i64 0] 72)) s h0 hs
  have HF := find_mark s[0] (s.data.toList.drop 1)
  rw [← byte_head s h0, second_at] at HF
  have hle : markC s[0].toNat (if h : 1 < s.size then s[1].toNat else 0) ≤ s.size := by
    refine Classical.byContradiction fun hn => ?_
    have h2 : markC s[0].toNat (if h : 1 < s.size then s[1].toNat else 0) ≤ 2 := by unfold markC; (repeat' split) <;> omega
    have h1 : s.size = 1 := by omega
    rw [dif_neg (by omega)] at hn
    have : markC s[0].toNat 0 ≤ 1 := by unfold markC; (repeat' split) <;> omega
    omega
  generalize markC s[0].toNat (if h : 1 < s.size then s[1].toNat else 0) = n at a1 HF hle
  have i0 : (0 : Int) ≤ (n : Int) := by omega
  have i1 : (n : Int) ≤ (s.size : Int) := by omega
  have HE : Hid (s.extract 0 n = ⟨(s.data.toList.take n).toArray⟩) := extract_front s n
  by_cases h : n = 0
  · have q : ((n : Int) == 0) = true := by rw [h]; rfl
    have HM : Hid (markL s.data.toList = .inr 0) := by show markL _ = _; unfold markL; rw [HF, if_pos h]
    clear HF h
    go_enter Tryz.func83, Tryz.ntmps83
    go_wp2_with fail
    refine a1.mono ?_
    rintro e w1 ⟨rfl, hw1⟩
    subst w1
    go_wp2_with fail
    exact bodyPost_ret (v := takeV (.inr 0)) (by simp [results, Tryz.results83, go_sem, takeV]) rfl ⟨by rw [HM.out], ((Below.refl _ _).alloc (Nat.le_refl _) _)⟩
  · have q : ((n : Int) == 0) = false := by rw [beq_eq_false_iff_ne]; omega
    have HM : Hid (markL s.data.toList = .inl (4, s.data.toList.take n, 0, n)) := by
      show markL _ = _
      unfold markL
      rw [HF, if_neg h]
      simp only [List.length_take, Array.length_toList]
      rw [Nat.min_eq_left (by simpa using hle)]
    clear HF h
    go_enter Tryz.func83, Tryz.ntmps83
    go_wp2_with fail
    refine a1.mono ?_
    rintro e w1 ⟨rfl, hw1⟩
    subst w1
    go_wp2_with fail
    exact bodyPost_ret (v := takeV (.inl (4, s.data.toList.take n, 0, n))) (by simp [results, Tryz.results83, go_sem, takeV, HE.out]) rfl ⟨by rw [HM.out], ((Below.refl _ _).alloc (Nat.le_refl _) _)⟩

def quoteL (l : List UInt8) : (Int × List UInt8 × Nat × Nat) ⊕ Nat := match textP l with
  | .inl (b, n) => .inl (3, b, 0, n)
  | .inr k => .inr k
def HasMax (w : World) : Prop := ∃ m : Int, w.cell? ⟨0, 0, none⟩ = some (.int .i64 m)
theorem HasMax.keep {w w' : World} (h : HasMax w) (k : Below w.heap.size w w') : HasMax w' := by
  obtain ⟨m, hm⟩ := h
  exact ⟨m, cell_keep hm k⟩
theorem bset4 {a b : World} {q : Nat} (h : Below a.heap.size a b) (hq : a.heap.size ≤ q) (x0 x1 x2 x3 : Value) : Below a.heap.size a ((((b.setCell ⟨q, 0, none⟩ x0).setCell ⟨q, 1, none⟩ x1).setCell ⟨q, 2, none⟩ x2).setCell ⟨q, 3, none⟩ x3) :=
  (((h.setCell hq x0).setCell hq x1).setCell hq x2).setCell hq x3

set_option maxRecDepth 100000 in
set_option maxHeartbeats 4000000 in
theorem takeText_any (w : World) (hm : HasMax w) (s : ByteArray) (h0 : 0 < s.size) (h39 : s[0].toNat = 39) (hs : s.size ≤ 1000000) :
    Calls Tryz.prog 82 #[.string s] w fun e w' => e = .returned (takeV (quoteL s.data.toList)) ∧ Below w.heap.size w w' := by
  have a1 := spanQ_any (w.alloc (.cells #[.int .i64 0, .string ⟨#[]⟩, .int .i64 0, .int .i64 0] 72)) s hs
  rw [show (w.alloc (.cells #[.int .i64 0, .string ⟨#[]⟩, .int .i64 0, .int .i64 0] 72)).heap.size = w.heap.size + 1 from by simp] at a1
  have hle : (qrun false s.data.toList).1 ≤ s.size := by have := qrun_le false s.data.toList; simpa using this
  have h2 : (qrun false s.data.toList).2 = false → 2 ≤ (qrun false s.data.toList).1 := by rw [byte_head s h0]; exact qrun_two h39
  have HQ : Hid (textP s.data.toList = if (qrun false s.data.toList).2 = true then .inr 0
    else if 1000 < (saidP s.data.toList).length then .inr 0
    else if runN mayB (s.data.toList.take (qrun false s.data.toList).1) < (qrun false s.data.toList).1 then .inr (runN mayB (s.data.toList.take (qrun false s.data.toList).1))
    else .inl (saidP s.data.toList, (qrun false s.data.toList).1)) := rfl
  have HS : Hid (saidP s.data.toList = Lib.replaceAll ((s.data.toList.take ((qrun false s.data.toList).1 - 1)).drop 1) [39, 39] [39]) := rfl
  generalize qrun false s.data.toList = nb at a1 hle h2 HQ HS
  obtain ⟨n, o⟩ := nb
  dsimp only at a1 hle h2 HQ HS
  cases o
  · replace h2 := h2 rfl
    simp only [Bool.false_eq_true, if_false] at HQ
    have HX : Hid ((s.extract 1 (n - 1)).data.toList = (s.data.toList.take (n - 1)).drop 1) := by
      show (s.extract 1 (n - 1)).data.toList = _
      rw [extract_mid]
      simp [List.drop_take]
    have hxs : (s.extract 1 (n - 1)).size ≤ 1000000 := by simp; omega
    have hW : Below w.heap.size w ((w.alloc (.cells #[.int .i64 0, .string ⟨#[]⟩, .int .i64 0, .int .i64 0] 72)).alloc (.cells #[.bool false] 4)) := ((Below.refl _ _).alloc (Nat.le_refl _) _).alloc (by simp) _
    obtain ⟨m, hm'⟩ := hm.keep hW
    have a2 := Tryz.strings_ReplaceAll (s.extract 1 (n - 1)) ⟨#[39, 39]⟩ ⟨#[39]⟩ m _ (by omega) hm' (by decide) (by
      have := Lib.countB_le ⟨#[39, 39]⟩ (by decide) _ (s.extract 1 (n - 1)) (Nat.le_refl _)
      show _ + _ * 1 ≤ _
      omega)
    rw [HX.out] at a2
    have e3 : Lib.replaceAll ((s.data.toList.take (n - 1)).drop 1) (⟨#[39, 39]⟩ : ByteArray).data.toList (⟨#[39]⟩ : ByteArray).data.toList = saidP s.data.toList := HS.out.symm
    rw [e3] at a2
    clear e3 HS HX hm'
    generalize saidP s.data.toList = sd at a2 HQ
    have j0 : (1 : Int) ≤ (n : Int) - 1 := by omega
    have j1 : (n : Int) - 1 ≤ (s.size : Int) := by omega
    have j2 : (n : Int) ≤ (s.size : Int) := by omega
    have j3 : (0 : Int) ≤ (n : Int) := by omega
    have hsz : (⟨sd.toArray⟩ : ByteArray).size = sd.length := by simp [ByteArray.size]
    have a3 := fun w' => span_may w' (s.extract 0 n) (by simp; omega)
    rw [show (s.extract 0 n).data.toList = s.data.toList.take n from by rw [extract_front]] at a3
    have hrl : runN mayB (s.data.toList.take n) ≤ n := by have := runN_le mayB (s.data.toList.take n); simp at this; omega
    generalize runN mayB (s.data.toList.take n) = r at a3 HQ hrl
    by_cases hl : 1000 < sd.length
    · have q : decide ((1000 : Int) < ((⟨sd.toArray⟩ : ByteArray).size : Int)) = true := by rw [hsz]; simp; omega
      have HR : Hid (quoteL s.data.toList = .inr 0) := by show quoteL _ = _; unfold quoteL; rw [HQ.out, if_pos hl]
      clear HQ h2 hl hsz
      generalize (⟨sd.toArray⟩ : ByteArray) = sb at *
      go_enter Tryz.func82, Tryz.ntmps82
      go_wp2_with fail
      refine a1.mono ?_
      rintro e w1 ⟨rfl, hw1⟩
      subst w1
      go_wp2_with fail
      refine a2.mono ?_
      rintro e w3 ⟨rfl, b3⟩
      have t0 : TokAt w3 w.heap.size 0 ⟨#[]⟩ 0 0 := TokAt.keep (TokAt.alloc (heap_alloc_new w _) _) b3
      obtain ⟨c0, c1, c2, c3⟩ := t0.cells
      have hf := t0.frozen
      clear t0
      go_wp2_with fail
      exact bodyPost_ret (v := takeV (.inr 0)) (by simp [results, Tryz.results82, go_sem, takeV, c0, c1, c2, c3]) rfl ⟨by rw [HR.out], bset4 (btrans hW b3) (Nat.le_refl _) _ _ _ _⟩
    · have q : decide ((1000 : Int) < ((⟨sd.toArray⟩ : ByteArray).size : Int)) = false := by rw [hsz]; simp; omega
      by_cases hr : r < n
      · have q2 : decide ((r : Int) < (n : Int)) = true := by simp; omega
        have HR : Hid (quoteL s.data.toList = .inr r) := by show quoteL _ = _; unfold quoteL; rw [HQ.out, if_neg hl, if_pos hr]
        clear HQ h2 hl hsz
        generalize (⟨sd.toArray⟩ : ByteArray) = sb at *
        go_enter Tryz.func82, Tryz.ntmps82
        go_wp2_with fail
        refine a1.mono ?_
        rintro e w1 ⟨rfl, hw1⟩
        subst w1
        go_wp2_with fail
        refine a2.mono ?_
        rintro e w3 ⟨rfl, b3⟩
        have t0 : TokAt w3 w.heap.size 0 ⟨#[]⟩ 0 0 := TokAt.keep (TokAt.alloc (heap_alloc_new w _) _) b3
        obtain ⟨c0, c1, c2, c3⟩ := t0.cells
        have hf := t0.frozen
        clear t0
        go_wp2_with fail
        refine (a3 w3).mono ?_
        rintro e w1 ⟨rfl, hw1⟩
        subst w1
        go_wp2_with fail
        exact bodyPost_ret (v := takeV (.inr r)) (by simp [results, Tryz.results82, go_sem, takeV, c0, c1, c2, c3]) rfl ⟨by rw [HR.out], bset4 (btrans hW b3) (Nat.le_refl _) _ _ _ _⟩
      · have q2 : decide ((r : Int) < (n : Int)) = false := by simp; omega
        have HR : Hid (takeV (quoteL s.data.toList) = .tuple #[T4 3 ⟨sd.toArray⟩ 0 0, .int .i64 (n : Int), .int .i64 (-1)]) := by show takeV (quoteL _) = _; unfold quoteL; rw [HQ.out, if_neg hl, if_neg hr]; rfl
        clear HQ h2 hl hsz
        generalize (⟨sd.toArray⟩ : ByteArray) = sb at *
        go_enter Tryz.func82, Tryz.ntmps82
        go_wp2_with fail
        refine a1.mono ?_
        rintro e w1 ⟨rfl, hw1⟩
        subst w1
        go_wp2_with fail
        refine a2.mono ?_
        rintro e w3 ⟨rfl, b3⟩
        have t0 : TokAt w3 w.heap.size 0 ⟨#[]⟩ 0 0 := TokAt.keep (TokAt.alloc (heap_alloc_new w _) _) b3
        obtain ⟨c0, c1, c2, c3⟩ := t0.cells
        have hf := t0.frozen
        clear t0
        go_wp2_with fail
        refine (a3 w3).mono ?_
        rintro e w1 ⟨rfl, hw1⟩
        subst w1
        go_wp2_with fail
        exact bodyPost_ret (v := .tuple #[T4 3 sb 0 0, .int .i64 (n : Int), .int .i64 (-1)]) (by simp [results, Tryz.results82, go_sem, c0, c1, c2, c3]) rfl ⟨by rw [HR.out], bset4 (btrans hW b3) (Nat.le_refl _) _ _ _ _⟩
  · have HR : Hid (quoteL s.data.toList = .inr 0) := by show quoteL _ = _; unfold quoteL; rw [HQ.out]; rfl
    clear HQ HS h2
    go_enter Tryz.func82, Tryz.ntmps82
    go_wp2_with fail
    refine a1.mono ?_
    rintro e w1 ⟨rfl, hw1⟩
    subst w1
    go_wp2_with fail
    exact bodyPost_ret (v := takeV (.inr 0)) (by simp [results, Tryz.results82, go_sem, takeV]) rfl ⟨by rw [HR.out], ((Below.refl _ _).alloc (Nat.le_refl _) _).alloc (by simp) _⟩

end Go.Proofs.YtckidlbmoalomaaGreatDoor


namespace Go.Proofs.YtckidlbmoalomaaGreatDoor
open Go.RowKit Go.Sort

theorem take_nil (w : World) : Calls Tryz.prog 46 #[.string ⟨#[]⟩] w fun e w' => e = .returned (.tuple #[T4 0 ⟨#[]⟩ 0 0, .int .i64 0, .int .i64 (-1)]) ∧ Below w.heap.size w w' := by
  go_enter Tryz.func46, Tryz.ntmps46
  go_wp2_with fail
  exact bodyPost_ret (v := .tuple #[T4 0 ⟨#[]⟩ 0 0, .int .i64 0, .int .i64 (-1)]) (by simp [results, Tryz.results46, go_sem]) rfl ⟨rfl, (Below.refl _ _).alloc (Nat.le_refl _) _⟩
theorem bytes_ne {s : ByteArray} (h0 : 0 < s.size) : (s.toList == ([] : List UInt8)) = false := by
  rw [beq_eq_false_iff_ne]
  intro h
  rw [empty_of h] at h0
  exact absurd h0 (by decide)

set_option maxRecDepth 100000 in
set_option maxHeartbeats 4000000 in
theorem take_any (w : World) (s : ByteArray) (h0 : 0 < s.size) (hm : HasMax w ∨ s[0].toNat ≠ 39) (hs : s.size ≤ 1000000) :
    Calls Tryz.prog 46 #[.string s] w fun e w' => e = .returned (takeV (oneL s.data.toList)) ∧ Below w.heap.size w w' := by
  have hl := letter_any (w.alloc (.cells #[.int .i64 0, .string ⟨#[]⟩, .int .i64 0, .int .i64 0] 72)) s[0]
  have hd := digit_any (w.alloc (.cells #[.int .i64 0, .string ⟨#[]⟩, .int .i64 0, .int .i64 0] 72)) s[0]
  have hne := bytes_ne h0
  have i0 : (0 : Int) < (s.size : Int) := by omega
  have HO : Hid (oneL s.data.toList = oneC s[0] (s.data.toList.drop 1)) := by
    show oneL _ = _
    conv => lhs; rw [byte_head s h0]
    rfl
  have hW : Below w.heap.size w (w.alloc (.cells #[.int .i64 0, .string ⟨#[]⟩, .int .i64 0, .int .i64 0] 72)) := (Below.refl _ _).alloc (Nat.le_refl _) _
  cases hL : letterB s[0]
  · rw [hL] at hl
    cases hD : digitB s[0]
    · rw [hD] at hd
      by_cases h39 : s[0].toNat = 39
      · have q : ((s[0].toNat : Int) == 39) = true := by rw [h39]; rfl
        have a := takeText_any (w.alloc (.cells #[.int .i64 0, .string ⟨#[]⟩, .int .i64 0, .int .i64 0] 72)) ((hm.resolve_right (fun h => h h39)).keep hW) s h0 h39 hs
        have HR : Hid (oneL s.data.toList = quoteL s.data.toList) := by
          show oneL _ = _
          rw [HO.out]
          unfold oneC quoteL
          rw [hL, hD, ← byte_head s h0]
          simp only [h39, Bool.false_eq_true, if_false, if_true]
          generalize textP s.data.toList = z
          rcases z with ⟨b, n⟩ | k <;> rfl
        clear h39 hL hD hm
        rw [← HR.out] at a
        generalize oneL s.data.toList = R at a
        clear HO HR
        match R, a with
        | .inl (kind, tx, n, len), a =>
          simp only [takeV] at a ⊢
          go_enter Tryz.func46, Tryz.ntmps46
          go_wp2_with fail
          refine hl.mono ?_
          rintro e w1 ⟨rfl, hw1⟩
          subst w1
          go_wp2_with fail
          refine hd.mono ?_
          rintro e w1 ⟨rfl, hw1⟩
          subst w1
          go_wp2_with fail
          refine a.mono ?_
          rintro e w3 ⟨rfl, b3⟩
          have t0 : TokAt w3 w.heap.size 0 ⟨#[]⟩ 0 0 := TokAt.keep (heap_alloc_new w _) b3
          obtain ⟨c0, c1, c2, c3⟩ := t0.cells
          have hf := t0.frozen
          clear t0
          go_wp2_with fail
          exact bodyPost_ret (v := .tuple #[T4 kind ⟨tx.toArray⟩ (n : Int) 0, .int .i64 (len : Int), .int .i64 (-1)]) (by simp [results, Tryz.results46, go_sem, c0, c1, c2, c3]) rfl ⟨rfl, bset4 (btrans hW b3) (Nat.le_refl _) _ _ _ _⟩
        | .inr d, a =>
          simp only [takeV] at a ⊢
          go_enter Tryz.func46, Tryz.ntmps46
          go_wp2_with fail
          refine hl.mono ?_
          rintro e w1 ⟨rfl, hw1⟩
          subst w1
          go_wp2_with fail
          refine hd.mono ?_
          rintro e w1 ⟨rfl, hw1⟩
          subst w1
          go_wp2_with fail
          refine a.mono ?_
          rintro e w3 ⟨rfl, b3⟩
          have t0 : TokAt w3 w.heap.size 0 ⟨#[]⟩ 0 0 := TokAt.keep (heap_alloc_new w _) b3
          obtain ⟨c0, c1, c2, c3⟩ := t0.cells
          have hf := t0.frozen
          clear t0
          go_wp2_with fail
          exact bodyPost_ret (v := .tuple #[T4 0 ⟨#[]⟩ 0 0, .int .i64 0, .int .i64 (d : Int)]) (by simp [results, Tryz.results46, go_sem, c0, c1, c2, c3]) rfl ⟨rfl, bset4 (btrans hW b3) (Nat.le_refl _) _ _ _ _⟩
      · have q : ((s[0].toNat : Int) == 39) = false := by rw [beq_eq_false_iff_ne]; omega
        have a := takeMark_any (w.alloc (.cells #[.int .i64 0, .string ⟨#[]⟩, .int .i64 0, .int .i64 0] 72)) s h0 hs
        have HR : Hid (oneL s.data.toList = markL s.data.toList) := by
          show oneL _ = _
          rw [HO.out]
          unfold oneC markL
          rw [hL, hD, ← byte_head s h0]
          simp only [h39, Bool.false_eq_true, if_false]
          generalize marksL.find? (fun m => m.isPrefixOf s.data.toList) = z
          cases z <;> rfl
        clear h39 hL hD hm
        rw [← HR.out] at a
        generalize oneL s.data.toList = R at a
        clear HO HR
        match R, a with
        | .inl (kind, tx, n, len), a =>
          simp only [takeV] at a ⊢
          go_enter Tryz.func46, Tryz.ntmps46
          go_wp2_with fail
          refine hl.mono ?_
          rintro e w1 ⟨rfl, hw1⟩
          subst w1
          go_wp2_with fail
          refine hd.mono ?_
          rintro e w1 ⟨rfl, hw1⟩
          subst w1
          go_wp2_with fail
          refine a.mono ?_
          rintro e w3 ⟨rfl, b3⟩
          have t0 : TokAt w3 w.heap.size 0 ⟨#[]⟩ 0 0 := TokAt.keep (heap_alloc_new w _) b3
          obtain ⟨c0, c1, c2, c3⟩ := t0.cells
          have hf := t0.frozen
          clear t0
          go_wp2_with fail
          exact bodyPost_ret (v := .tuple #[T4 kind ⟨tx.toArray⟩ (n : Int) 0, .int .i64 (len : Int), .int .i64 (-1)]) (by simp [results, Tryz.results46, go_sem, c0, c1, c2, c3]) rfl ⟨rfl, bset4 (btrans hW b3) (Nat.le_refl _) _ _ _ _⟩
        | .inr d, a =>
          simp only [takeV] at a ⊢
          go_enter Tryz.func46, Tryz.ntmps46
          go_wp2_with fail
          refine hl.mono ?_
          rintro e w1 ⟨rfl, hw1⟩
          subst w1
          go_wp2_with fail
          refine hd.mono ?_
          rintro e w1 ⟨rfl, hw1⟩
          subst w1
          go_wp2_with fail
          refine a.mono ?_
          rintro e w3 ⟨rfl, b3⟩
          have t0 : TokAt w3 w.heap.size 0 ⟨#[]⟩ 0 0 := TokAt.keep (heap_alloc_new w _) b3
          obtain ⟨c0, c1, c2, c3⟩ := t0.cells
          have hf := t0.frozen
          clear t0
          go_wp2_with fail
          exact bodyPost_ret (v := .tuple #[T4 0 ⟨#[]⟩ 0 0, .int .i64 0, .int .i64 (d : Int)]) (by simp [results, Tryz.results46, go_sem, c0, c1, c2, c3]) rfl ⟨rfl, bset4 (btrans hW b3) (Nat.le_refl _) _ _ _ _⟩
    · rw [hD] at hd
      have a := takeInt_any (w.alloc (.cells #[.int .i64 0, .string ⟨#[]⟩, .int .i64 0, .int .i64 0] 72)) s hs
      have HR : Hid (oneL s.data.toList = if 18 < runN digitB s.data.toList then .inr 0 else .inl (2, s.data.toList.take (runN digitB s.data.toList), numL (s.data.toList.take (runN digitB s.data.toList)), runN digitB s.data.toList)) := by
        show oneL _ = _
        rw [HO.out]
        unfold oneC
        rw [hL, hD, ← byte_head s h0]
        simp
      clear hL hD hm
      rw [← HR.out] at a
      generalize oneL s.data.toList = R at a
      clear HO HR
      match R, a with
      | .inl (kind, tx, n, len), a =>
        simp only [takeV] at a ⊢
        go_enter Tryz.func46, Tryz.ntmps46
        go_wp2_with fail
        refine hl.mono ?_
        rintro e w1 ⟨rfl, hw1⟩
        subst w1
        go_wp2_with fail
        refine hd.mono ?_
        rintro e w1 ⟨rfl, hw1⟩
        subst w1
        go_wp2_with fail
        refine a.mono ?_
        rintro e w3 ⟨rfl, b3⟩
        have t0 : TokAt w3 w.heap.size 0 ⟨#[]⟩ 0 0 := TokAt.keep (heap_alloc_new w _) b3
        obtain ⟨c0, c1, c2, c3⟩ := t0.cells
        have hf := t0.frozen
        clear t0
        go_wp2_with fail
        exact bodyPost_ret (v := .tuple #[T4 kind ⟨tx.toArray⟩ (n : Int) 0, .int .i64 (len : Int), .int .i64 (-1)]) (by simp [results, Tryz.results46, go_sem, c0, c1, c2, c3]) rfl ⟨rfl, bset4 (btrans hW b3) (Nat.le_refl _) _ _ _ _⟩
      | .inr d, a =>
        simp only [takeV] at a ⊢
        go_enter Tryz.func46, Tryz.ntmps46
        go_wp2_with fail
        refine hl.mono ?_
        rintro e w1 ⟨rfl, hw1⟩
        subst w1
        go_wp2_with fail
        refine hd.mono ?_
        rintro e w1 ⟨rfl, hw1⟩
        subst w1
        go_wp2_with fail
        refine a.mono ?_
        rintro e w3 ⟨rfl, b3⟩
        have t0 : TokAt w3 w.heap.size 0 ⟨#[]⟩ 0 0 := TokAt.keep (heap_alloc_new w _) b3
        obtain ⟨c0, c1, c2, c3⟩ := t0.cells
        have hf := t0.frozen
        clear t0
        go_wp2_with fail
        exact bodyPost_ret (v := .tuple #[T4 0 ⟨#[]⟩ 0 0, .int .i64 0, .int .i64 (d : Int)]) (by simp [results, Tryz.results46, go_sem, c0, c1, c2, c3]) rfl ⟨rfl, bset4 (btrans hW b3) (Nat.le_refl _) _ _ _ _⟩
  · rw [hL] at hl
    have a := takeName_any (w.alloc (.cells #[.int .i64 0, .string ⟨#[]⟩, .int .i64 0, .int .i64 0] 72)) s hs
    have HR : Hid (oneL s.data.toList = if 30 < runN nameB s.data.toList then .inr 0 else .inl (1, s.data.toList.take (runN nameB s.data.toList), 0, runN nameB s.data.toList)) := by
      show oneL _ = _
      rw [HO.out]
      unfold oneC
      rw [hL, ← byte_head s h0]
      simp only [if_true]
      rfl
    clear hL hm
    rw [← HR.out] at a
    generalize oneL s.data.toList = R at a
    clear HO HR
    match R, a with
    | .inl (kind, tx, n, len), a =>
      simp only [takeV] at a ⊢
      go_enter Tryz.func46, Tryz.ntmps46
      go_wp2_with fail
      refine hl.mono ?_
      rintro e w1 ⟨rfl, hw1⟩
      subst w1
      go_wp2_with fail
      refine a.mono ?_
      rintro e w3 ⟨rfl, b3⟩
      have t0 : TokAt w3 w.heap.size 0 ⟨#[]⟩ 0 0 := TokAt.keep (heap_alloc_new w _) b3
      obtain ⟨c0, c1, c2, c3⟩ := t0.cells
      have hf := t0.frozen
      clear t0
      go_wp2_with fail
      exact bodyPost_ret (v := .tuple #[T4 kind ⟨tx.toArray⟩ (n : Int) 0, .int .i64 (len : Int), .int .i64 (-1)]) (by simp [results, Tryz.results46, go_sem, c0, c1, c2, c3]) rfl ⟨rfl, bset4 (btrans hW b3) (Nat.le_refl _) _ _ _ _⟩
    | .inr d, a =>
      simp only [takeV] at a ⊢
      go_enter Tryz.func46, Tryz.ntmps46
      go_wp2_with fail
      refine hl.mono ?_
      rintro e w1 ⟨rfl, hw1⟩
      subst w1
      go_wp2_with fail
      refine a.mono ?_
      rintro e w3 ⟨rfl, b3⟩
      have t0 : TokAt w3 w.heap.size 0 ⟨#[]⟩ 0 0 := TokAt.keep (heap_alloc_new w _) b3
      obtain ⟨c0, c1, c2, c3⟩ := t0.cells
      have hf := t0.frozen
      clear t0
      go_wp2_with fail
      exact bodyPost_ret (v := .tuple #[T4 0 ⟨#[]⟩ 0 0, .int .i64 0, .int .i64 (d : Int)]) (by simp [results, Tryz.results46, go_sem, c0, c1, c2, c3]) rfl ⟨rfl, bset4 (btrans hW b3) (Nat.le_refl _) _ _ _ _⟩

end Go.Proofs.YtckidlbmoalomaaGreatDoor
