/- Contracts of the program's tests of bytes, and of span with each of them. -/
import Derived.Test.YtppihaaipkmpcaaDoorTokRef1
import Derived.Test.YtppihaaipkmpcaaDoorTokLine
namespace Go.Proofs.YtppihaaipkmpcaaDoor
open Go.RowKit Go.Sort

def nameB (c : UInt8) : Bool := digitB c || letterB c
def noEndB (c : UInt8) : Bool := c.toNat != 10

theorem digit_any (w : World) (c : UInt8) : Calls Tryd.prog 29 #[.int .u8 (c.toNat : Int)] w fun e w' => e = .returned (.bool (digitB c)) ∧ w' = w := by
  have q1 : decide ((48 : Int) ≤ (c.toNat : Int)) = decide (48 ≤ c.toNat) := le_nat 48 _
  have q2 : decide ((c.toNat : Int) ≤ 57) = decide (c.toNat ≤ 57) := le_nat _ 57
  have HX : Hid (digitB c = (decide (48 ≤ c.toNat) && decide (c.toNat ≤ 57))) := rfl
  generalize decide (48 ≤ c.toNat) = b1 at q1 HX
  generalize decide (c.toNat ≤ 57) = b2 at q2 HX
  cases b1 <;> cases b2 <;> (
    go_enter Tryd.func29, Tryd.ntmps29
    go_wp2_with fail
    go_ret
    exact ⟨ret_bool (by rw [HX.out]; rfl), rfl⟩)
theorem may_any (w : World) (c : UInt8) : Calls Tryd.prog 38 #[.int .u8 (c.toNat : Int)] w fun e w' => e = .returned (.bool (mayB c)) ∧ w' = w := by
  have q1 : decide ((32 : Int) ≤ (c.toNat : Int)) = decide (32 ≤ c.toNat) := le_nat 32 _
  have q2 : ((c.toNat : Int) == 10) = (c.toNat == 10) := beq_nat _ 10
  have HX : Hid (mayB c = (decide (32 ≤ c.toNat) || c.toNat == 10)) := rfl
  generalize decide (32 ≤ c.toNat) = b1 at q1 HX
  generalize (c.toNat == 10) = b2 at q2 HX
  cases b1 <;> cases b2 <;> (
    go_enter Tryd.func38, Tryd.ntmps38
    go_wp2_with fail
    go_ret
    exact ⟨ret_bool (by rw [HX.out]; rfl), rfl⟩)
theorem blank_any (w : World) (c : UInt8) : Calls Tryd.prog 17 #[.int .u8 (c.toNat : Int)] w fun e w' => e = .returned (.bool (blankB c)) ∧ w' = w := by
  have q1 : ((c.toNat : Int) == 32) = (c.toNat == 32) := beq_nat _ 32
  have q2 : ((c.toNat : Int) == 9) = (c.toNat == 9) := beq_nat _ 9
  have q3 : ((c.toNat : Int) == 10) = (c.toNat == 10) := beq_nat _ 10
  have q4 : ((c.toNat : Int) == 13) = (c.toNat == 13) := beq_nat _ 13
  have HX : Hid (blankB c = (c.toNat == 32 || c.toNat == 9 || c.toNat == 10 || c.toNat == 13)) := rfl
  generalize (c.toNat == 32) = b1 at q1 HX
  generalize (c.toNat == 9) = b2 at q2 HX
  generalize (c.toNat == 10) = b3 at q3 HX
  generalize (c.toNat == 13) = b4 at q4 HX
  cases b1 <;> cases b2 <;> cases b3 <;> cases b4 <;> (
    go_enter Tryd.func17, Tryd.ntmps17
    go_wp2_with fail
    go_ret
    exact ⟨ret_bool (by rw [HX.out]; rfl), rfl⟩)
theorem letter_any (w : World) (c : UInt8) : Calls Tryd.prog 27 #[.int .u8 (c.toNat : Int)] w fun e w' => e = .returned (.bool (letterB c)) ∧ w' = w := by
  have q1 : decide ((97 : Int) ≤ (c.toNat : Int)) = decide (97 ≤ c.toNat) := le_nat 97 _
  have q2 : decide ((c.toNat : Int) ≤ 122) = decide (c.toNat ≤ 122) := le_nat _ 122
  have q3 : decide ((65 : Int) ≤ (c.toNat : Int)) = decide (65 ≤ c.toNat) := le_nat 65 _
  have q4 : decide ((c.toNat : Int) ≤ 90) = decide (c.toNat ≤ 90) := le_nat _ 90
  have q5 : ((c.toNat : Int) == 95) = (c.toNat == 95) := beq_nat _ 95
  have HX : Hid (letterB c = ((decide (97 ≤ c.toNat) && decide (c.toNat ≤ 122)) || (decide (65 ≤ c.toNat) && decide (c.toNat ≤ 90)) || c.toNat == 95)) := rfl
  generalize decide (97 ≤ c.toNat) = b1 at q1 HX
  generalize decide (c.toNat ≤ 122) = b2 at q2 HX
  generalize decide (65 ≤ c.toNat) = b3 at q3 HX
  generalize decide (c.toNat ≤ 90) = b4 at q4 HX
  generalize (c.toNat == 95) = b5 at q5 HX
  cases b1 <;> cases b2 <;> cases b3 <;> cases b4 <;> cases b5 <;> (
    go_enter Tryd.func27, Tryd.ntmps27
    go_wp2_with fail
    go_ret
    exact ⟨ret_bool (by rw [HX.out]; rfl), rfl⟩)
theorem noEnd_any (w : World) (c : UInt8) : Calls Tryd.prog 19 #[.int .u8 (c.toNat : Int)] w fun e w' => e = .returned (.bool (noEndB c)) ∧ w' = w := by
  have HX : Hid (noEndB c = ((c.toNat : Int) != 10)) := by
    show noEndB c = _
    unfold noEndB
    rw [Bool.eq_iff_iff, bne_iff_ne, bne_iff_ne]; omega
  go_enter Tryd.func19, Tryd.ntmps19
  go_wp2_with fail
  go_ret
  exact ⟨ret_bool HX.out.symm, rfl⟩
theorem name_any (w : World) (c : UInt8) : Calls Tryd.prog 35 #[.int .u8 (c.toNat : Int)] w fun e w' => e = .returned (.bool (nameB c)) ∧ w' = w := by
  have a1 := letter_any w c
  have a2 := digit_any w c
  have HX : Hid (nameB c = (letterB c || digitB c)) := Bool.or_comm _ _
  generalize letterB c = b1 at a1 HX
  generalize digitB c = b2 at a2 HX
  cases b1
  · go_enter Tryd.func35, Tryd.ntmps35
    go_wp2_with fail
    refine a1.mono ?_
    rintro e w1 ⟨rfl, hw1⟩
    subst w1
    go_wp2_with fail
    refine a2.mono ?_
    rintro e w1 ⟨rfl, hw1⟩
    subst w1
    go_wp2_with fail
    go_ret
    exact ⟨ret_bool (by rw [HX.out]; rfl), rfl⟩
  · go_enter Tryd.func35, Tryd.ntmps35
    go_wp2_with fail
    refine a1.mono ?_
    rintro e w1 ⟨rfl, hw1⟩
    subst w1
    go_wp2_with fail
    go_ret
    exact ⟨ret_bool (by rw [HX.out]; rfl), rfl⟩

end Go.Proofs.YtppihaaipkmpcaaDoor
