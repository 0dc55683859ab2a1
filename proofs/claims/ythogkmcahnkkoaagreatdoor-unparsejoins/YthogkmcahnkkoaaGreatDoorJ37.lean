/- What a statement must have, and what it has. -/
import Derived.Test.YthogkmcahnkkoaaGreatDoorJ35
import Derived.Test.YthogkmcahnkkoaaGreatDoorJ36
namespace Go.Proofs.YthogkmcahnkkoaaGreatDoor
open Go.RowKit
set_option maxRecDepth 10000
set_option linter.unusedSimpArgs false
set_option linter.unusedVariables false
set_option maxHeartbeats 4000000
theorem bI (n : Nat) : (if (1 : Int) < (n : Int) then (n : Int) else 1) = ((max 1 n : Nat) : Int) := by split <;> omega
theorem bJ (n : Nat) : (if (n : Int) < 1 then (n : Int) else 1) = ((min 1 n : Nat) : Int) := by split <;> omega
theorem Xj {σ : AW} {k at0 : Int} {t : ByteArray} {names es qs wh body other : List Tr} {x : Value} (hx : bW (mkS k at0 t names es qs wh body other) x σ) : C Tryz.prog 66 [x] σ fun v σ' => v = .tuple ⟨[FP ((xK k names es wh body other).getD [0, 0, 0, 0, 0, 0, 0]), .bool (xK k names es wh body other).isSome]⟩ ∧ Kp σ σ' := by
 obtain ⟨v1, v2, v3, v4, v5, v6, rfl, r1, r2, r3, r4, r5, r6⟩ := sJ hx
 obtain ⟨a1, jA, rfl⟩ := aG r1
 obtain ⟨a2, jc, rfl⟩ := aG r2
 obtain ⟨a3, jT, rfl⟩ := aG r3
 obtain ⟨a4, mF, rfl⟩ := aG r4
 obtain ⟨a5, mX, rfl⟩ := aG r5
 obtain ⟨a6, ng, rfl⟩ := aG r6
 refine pK Tryz.func66 Tryz.ntmps66 Tryz.results66 fun A hz a0 => ?_
 by_cases e1 : k = 1
 ·subst e1
  have oV : Kp σ ((σ.push ⟨1, 54, 0, [.int .i64 1, .int .i64 at0, .string t, .slice a1 names.length jA, .slice a2 es.length jc, .slice a3 qs.length jT, .slice a4 wh.length mF, .slice a5 body.length mX, .slice a6 other.length ng]⟩).push ⟨1, 118, 0, [.int .i64 0, .int .i64 0, .int .i64 0, .int .i64 0, .int .i64 0, .int .i64 0, .int .i64 0]⟩) := ((Kp.refl σ).push _).push _
  refine dV a0 (eQ 1) @bI @bJ ?_
  refine xL ?_
  refine dS a0 @bI @bJ ?_
  refine dG ?_
  exact ⟨rfl, by repeat (first | exact oV | refine Kp.set ?_ (by omega) _)⟩
 by_cases e17 : k = 17
 ·subst e17
  have oV : Kp σ ((σ.push ⟨1, 54, 0, [.int .i64 17, .int .i64 at0, .string t, .slice a1 names.length jA, .slice a2 es.length jc, .slice a3 qs.length jT, .slice a4 wh.length mF, .slice a5 body.length mX, .slice a6 other.length ng]⟩).push ⟨1, 118, 0, [.int .i64 0, .int .i64 0, .int .i64 0, .int .i64 0, .int .i64 0, .int .i64 0, .int .i64 0]⟩) := ((Kp.refl σ).push _).push _
  refine jy a0 (nQ 17 1) (eQ 17) @bI @bJ ?_
  refine xL ?_
  refine dS a0 @bI @bJ ?_
  refine dG ?_
  exact ⟨rfl, by repeat (first | exact oV | refine Kp.set ?_ (by omega) _)⟩
 by_cases e2 : k = 2
 ·subst e2
  have oV : Kp σ ((σ.push ⟨1, 54, 0, [.int .i64 2, .int .i64 at0, .string t, .slice a1 names.length jA, .slice a2 es.length jc, .slice a3 qs.length jT, .slice a4 wh.length mF, .slice a5 body.length mX, .slice a6 other.length ng]⟩).push ⟨1, 118, 0, [.int .i64 0, .int .i64 0, .int .i64 0, .int .i64 0, .int .i64 0, .int .i64 0, .int .i64 0]⟩) := ((Kp.refl σ).push _).push _
  refine kR a0 (nQ 2 1) (nQ 2 17) (eQ 2) @bI @bJ ?_
  refine xL ?_
  refine dS a0 @bI @bJ ?_
  refine bY mixed (by kernel_rfl) (by kernel_rfl) ?_
  refine Ub a0 @bI @bJ ?_
  refine oW [(1, 0), (1, 5), (2, 0), (2, 5)] ?_ ?_
  ·(repeat (refine aO (bg rfl rfl rfl rfl rfl (lF a0 @bI @bJ)) ?_)); exact bn
  refine dS a0 @bI @bJ ?_
  refine dG ?_
  exact ⟨rfl, by repeat (first | exact oV | refine Kp.set ?_ (by omega) _)⟩
 by_cases e3 : k = 3
 ·subst e3
  have oV : Kp σ ((σ.push ⟨1, 54, 0, [.int .i64 3, .int .i64 at0, .string t, .slice a1 names.length jA, .slice a2 es.length jc, .slice a3 qs.length jT, .slice a4 wh.length mF, .slice a5 body.length mX, .slice a6 other.length ng]⟩).push ⟨1, 118, 0, [.int .i64 0, .int .i64 0, .int .i64 0, .int .i64 0, .int .i64 0, .int .i64 0, .int .i64 0]⟩) := ((Kp.refl σ).push _).push _
  refine nH a0 (nQ 3 1) (nQ 3 17) (nQ 3 2) (eQ 3) @bI @bJ ?_
  refine xL ?_
  refine dS a0 @bI @bJ ?_
  refine bY mixed (by kernel_rfl) (by kernel_rfl) ?_
  refine Ub a0 @bI @bJ ?_
  refine oW [(1, 0), (1, 5), (2, 0), (2, 5)] ?_ ?_
  ·(repeat (refine aO (bg rfl rfl rfl rfl rfl (lF a0 @bI @bJ)) ?_)); exact bn
  refine dS a0 @bI @bJ ?_
  refine dG ?_
  exact ⟨rfl, by repeat (first | exact oV | refine Kp.set ?_ (by omega) _)⟩
 by_cases e4 : k = 4
 ·subst e4
  have oV : Kp σ ((σ.push ⟨1, 54, 0, [.int .i64 4, .int .i64 at0, .string t, .slice a1 names.length jA, .slice a2 es.length jc, .slice a3 qs.length jT, .slice a4 wh.length mF, .slice a5 body.length mX, .slice a6 other.length ng]⟩).push ⟨1, 118, 0, [.int .i64 0, .int .i64 0, .int .i64 0, .int .i64 0, .int .i64 0, .int .i64 0, .int .i64 0]⟩) := ((Kp.refl σ).push _).push _
  refine aY a0 (nQ 4 1) (nQ 4 17) (nQ 4 2) (nQ 4 3) (eQ 4) @bI @bJ ?_
  refine xL ?_
  refine dS a0 @bI @bJ ?_
  refine dG ?_
  exact ⟨rfl, by repeat (first | exact oV | refine Kp.set ?_ (by omega) _)⟩
 by_cases e10 : k = 10
 ·subst e10
  have oV : Kp σ ((σ.push ⟨1, 54, 0, [.int .i64 10, .int .i64 at0, .string t, .slice a1 names.length jA, .slice a2 es.length jc, .slice a3 qs.length jT, .slice a4 wh.length mF, .slice a5 body.length mX, .slice a6 other.length ng]⟩).push ⟨1, 118, 0, [.int .i64 0, .int .i64 0, .int .i64 0, .int .i64 0, .int .i64 0, .int .i64 0, .int .i64 0]⟩) := ((Kp.refl σ).push _).push _
  refine aY a0 (nQ 10 1) (nQ 10 17) (nQ 10 2) (nQ 10 3) (nQ 10 4) (eQ 10) (cJ @bI @bJ) ?_
  refine xL ?_
  refine dS a0 @bI @bJ ?_
  refine dG ?_
  exact ⟨rfl, by repeat (first | exact oV | refine Kp.set ?_ (by omega) _)⟩
 by_cases e5 : k = 5
 ·subst e5
  have oV : Kp σ ((σ.push ⟨1, 54, 0, [.int .i64 5, .int .i64 at0, .string t, .slice a1 names.length jA, .slice a2 es.length jc, .slice a3 qs.length jT, .slice a4 wh.length mF, .slice a5 body.length mX, .slice a6 other.length ng]⟩).push ⟨1, 118, 0, [.int .i64 0, .int .i64 0, .int .i64 0, .int .i64 0, .int .i64 0, .int .i64 0, .int .i64 0]⟩) := ((Kp.refl σ).push _).push _
  refine aY a0 (nQ 5 1) (nQ 5 17) (nQ 5 2) (nQ 5 3) (nQ 5 4) (nQ 5 10) (cJ (eQ 5) (cJ @bI @bJ)) ?_
  refine xL ?_
  refine dS a0 @bI @bJ ?_
  refine dG ?_
  exact ⟨rfl, by repeat (first | exact oV | refine Kp.set ?_ (by omega) _)⟩
 by_cases e6 : k = 6
 ·subst e6
  have oV : Kp σ ((σ.push ⟨1, 54, 0, [.int .i64 6, .int .i64 at0, .string t, .slice a1 names.length jA, .slice a2 es.length jc, .slice a3 qs.length jT, .slice a4 wh.length mF, .slice a5 body.length mX, .slice a6 other.length ng]⟩).push ⟨1, 118, 0, [.int .i64 0, .int .i64 0, .int .i64 0, .int .i64 0, .int .i64 0, .int .i64 0, .int .i64 0]⟩) := ((Kp.refl σ).push _).push _
  refine aY a0 (nQ 6 1) (nQ 6 17) (nQ 6 2) (nQ 6 3) (nQ 6 4) (nQ 6 10) (cJ (nQ 6 5) (cJ (eQ 6) (cJ @bI @bJ))) ?_
  refine xL ?_
  refine dS a0 @bI @bJ ?_
  refine dG ?_
  exact ⟨rfl, by repeat (first | exact oV | refine Kp.set ?_ (by omega) _)⟩
 by_cases e7 : k = 7
 ·subst e7
  have oV : Kp σ ((σ.push ⟨1, 54, 0, [.int .i64 7, .int .i64 at0, .string t, .slice a1 names.length jA, .slice a2 es.length jc, .slice a3 qs.length jT, .slice a4 wh.length mF, .slice a5 body.length mX, .slice a6 other.length ng]⟩).push ⟨1, 118, 0, [.int .i64 0, .int .i64 0, .int .i64 0, .int .i64 0, .int .i64 0, .int .i64 0, .int .i64 0]⟩) := ((Kp.refl σ).push _).push _
  refine aY a0 (nQ 7 1) (nQ 7 17) (nQ 7 2) (nQ 7 3) (nQ 7 4) (nQ 7 10) (cJ (nQ 7 5) (cJ (nQ 7 6) (cJ (eQ 7) (cJ @bI @bJ)))) ?_
  refine xL ?_
  refine dS a0 @bI @bJ ?_
  refine dG ?_
  exact ⟨rfl, by repeat (first | exact oV | refine Kp.set ?_ (by omega) _)⟩
 by_cases e8 : k = 8
 ·subst e8
  have oV : Kp σ ((σ.push ⟨1, 54, 0, [.int .i64 8, .int .i64 at0, .string t, .slice a1 names.length jA, .slice a2 es.length jc, .slice a3 qs.length jT, .slice a4 wh.length mF, .slice a5 body.length mX, .slice a6 other.length ng]⟩).push ⟨1, 118, 0, [.int .i64 0, .int .i64 0, .int .i64 0, .int .i64 0, .int .i64 0, .int .i64 0, .int .i64 0]⟩) := ((Kp.refl σ).push _).push _
  refine aY a0 (nQ 8 1) (nQ 8 17) (nQ 8 2) (nQ 8 3) (nQ 8 4) (nQ 8 10) (cJ (nQ 8 5) (cJ (nQ 8 6) (cJ (nQ 8 7) (cJ (eQ 8) (cJ @bI @bJ))))) ?_
  refine xL ?_
  refine dS a0 @bI @bJ ?_
  refine bY mixed (by kernel_rfl) (by kernel_rfl) ?_
  refine Ub a0 @bI @bJ ?_
  refine oW [(1, 0), (1, 6), (2, 0), (2, 6)] ?_ ?_
  ·(repeat (refine aO (bg rfl rfl rfl rfl rfl (lF a0 @bI @bJ)) ?_)); exact bn
  refine dS a0 @bI @bJ ?_
  refine dG ?_
  exact ⟨rfl, by repeat (first | exact oV | refine Kp.set ?_ (by omega) _)⟩
 by_cases e9 : k = 9
 ·subst e9
  have oV : Kp σ ((σ.push ⟨1, 54, 0, [.int .i64 9, .int .i64 at0, .string t, .slice a1 names.length jA, .slice a2 es.length jc, .slice a3 qs.length jT, .slice a4 wh.length mF, .slice a5 body.length mX, .slice a6 other.length ng]⟩).push ⟨1, 118, 0, [.int .i64 0, .int .i64 0, .int .i64 0, .int .i64 0, .int .i64 0, .int .i64 0, .int .i64 0]⟩) := ((Kp.refl σ).push _).push _
  refine aY a0 (nQ 9 1) (nQ 9 17) (nQ 9 2) (nQ 9 3) (nQ 9 4) (nQ 9 10) (cJ (nQ 9 5) (cJ (nQ 9 6) (cJ (nQ 9 7) (cJ (nQ 9 8) (cJ (eQ 9) (cJ @bI @bJ)))))) ?_
  refine xL ?_
  refine dS a0 @bI @bJ ?_
  refine bY mixed (by kernel_rfl) (by kernel_rfl) ?_
  refine Ub a0 @bI @bJ ?_
  refine oW [(1, 0), (1, 6), (2, 0), (2, 6)] ?_ ?_
  ·(repeat (refine aO (bg rfl rfl rfl rfl rfl (lF a0 @bI @bJ)) ?_)); exact bn
  refine dS a0 @bI @bJ ?_
  refine dG ?_
  exact ⟨rfl, by repeat (first | exact oV | refine Kp.set ?_ (by omega) _)⟩
 by_cases e12 : k = 12
 ·subst e12
  have oV : Kp σ ((σ.push ⟨1, 54, 0, [.int .i64 12, .int .i64 at0, .string t, .slice a1 names.length jA, .slice a2 es.length jc, .slice a3 qs.length jT, .slice a4 wh.length mF, .slice a5 body.length mX, .slice a6 other.length ng]⟩).push ⟨1, 118, 0, [.int .i64 0, .int .i64 0, .int .i64 0, .int .i64 0, .int .i64 0, .int .i64 0, .int .i64 0]⟩) := ((Kp.refl σ).push _).push _
  refine aY a0 (nQ 12 1) (nQ 12 17) (nQ 12 2) (nQ 12 3) (nQ 12 4) (nQ 12 10) (cJ (nQ 12 5) (cJ (nQ 12 6) (cJ (nQ 12 7) (cJ (nQ 12 8) (cJ (nQ 12 9) (cJ (eQ 12) (cJ @bI @bJ))))))) ?_
  refine xL ?_
  refine dS a0 @bI @bJ ?_
  refine dG ?_
  exact ⟨rfl, by repeat (first | exact oV | refine Kp.set ?_ (by omega) _)⟩
 by_cases e11 : k = 11
 ·subst e11
  have oV : Kp σ ((σ.push ⟨1, 54, 0, [.int .i64 11, .int .i64 at0, .string t, .slice a1 names.length jA, .slice a2 es.length jc, .slice a3 qs.length jT, .slice a4 wh.length mF, .slice a5 body.length mX, .slice a6 other.length ng]⟩).push ⟨1, 118, 0, [.int .i64 0, .int .i64 0, .int .i64 0, .int .i64 0, .int .i64 0, .int .i64 0, .int .i64 0]⟩) := ((Kp.refl σ).push _).push _
  refine aY a0 (nQ 11 1) (nQ 11 17) (nQ 11 2) (nQ 11 3) (nQ 11 4) (nQ 11 10) (cJ (nQ 11 5) (cJ (nQ 11 6) (cJ (nQ 11 7) (cJ (nQ 11 8) (cJ (nQ 11 9) (cJ (nQ 11 12) (cJ (eQ 11) (cJ @bI @bJ)))))))) ?_
  refine xL ?_
  refine dS a0 @bI @bJ ?_
  refine dG ?_
  exact ⟨rfl, by repeat (first | exact oV | refine Kp.set ?_ (by omega) _)⟩
 by_cases e13 : k = 13
 ·subst e13
  have oV : Kp σ ((σ.push ⟨1, 54, 0, [.int .i64 13, .int .i64 at0, .string t, .slice a1 names.length jA, .slice a2 es.length jc, .slice a3 qs.length jT, .slice a4 wh.length mF, .slice a5 body.length mX, .slice a6 other.length ng]⟩).push ⟨1, 118, 0, [.int .i64 0, .int .i64 0, .int .i64 0, .int .i64 0, .int .i64 0, .int .i64 0, .int .i64 0]⟩) := ((Kp.refl σ).push _).push _
  refine aY a0 (nQ 13 1) (nQ 13 17) (nQ 13 2) (nQ 13 3) (nQ 13 4) (nQ 13 10) (cJ (nQ 13 5) (cJ (nQ 13 6) (cJ (nQ 13 7) (cJ (nQ 13 8) (cJ (nQ 13 9) (cJ (nQ 13 12) (cJ (nQ 13 11) (cJ (eQ 13) (cJ @bI @bJ))))))))) ?_
  refine xL ?_
  refine dS a0 @bI @bJ ?_
  refine dG ?_
  exact ⟨rfl, by repeat (first | exact oV | refine Kp.set ?_ (by omega) _)⟩
 by_cases e14 : k = 14
 ·subst e14
  have oV : Kp σ ((σ.push ⟨1, 54, 0, [.int .i64 14, .int .i64 at0, .string t, .slice a1 names.length jA, .slice a2 es.length jc, .slice a3 qs.length jT, .slice a4 wh.length mF, .slice a5 body.length mX, .slice a6 other.length ng]⟩).push ⟨1, 118, 0, [.int .i64 0, .int .i64 0, .int .i64 0, .int .i64 0, .int .i64 0, .int .i64 0, .int .i64 0]⟩) := ((Kp.refl σ).push _).push _
  refine aY a0 (nQ 14 1) (nQ 14 17) (nQ 14 2) (nQ 14 3) (nQ 14 4) (nQ 14 10) (cJ (nQ 14 5) (cJ (nQ 14 6) (cJ (nQ 14 7) (cJ (nQ 14 8) (cJ (nQ 14 9) (cJ (nQ 14 12) (cJ (nQ 14 11) (cJ (nQ 14 13) (cJ (eQ 14) (cJ @bI @bJ)))))))))) ?_
  refine xL ?_
  refine dS a0 @bI @bJ ?_
  refine dG ?_
  exact ⟨rfl, by repeat (first | exact oV | refine Kp.set ?_ (by omega) _)⟩
 by_cases e15 : k = 15
 ·subst e15
  have oV : Kp σ ((σ.push ⟨1, 54, 0, [.int .i64 15, .int .i64 at0, .string t, .slice a1 names.length jA, .slice a2 es.length jc, .slice a3 qs.length jT, .slice a4 wh.length mF, .slice a5 body.length mX, .slice a6 other.length ng]⟩).push ⟨1, 118, 0, [.int .i64 0, .int .i64 0, .int .i64 0, .int .i64 0, .int .i64 0, .int .i64 0, .int .i64 0]⟩) := ((Kp.refl σ).push _).push _
  refine aY a0 (nQ 15 1) (nQ 15 17) (nQ 15 2) (nQ 15 3) (nQ 15 4) (nQ 15 10) (cJ (nQ 15 5) (cJ (nQ 15 6) (cJ (nQ 15 7) (cJ (nQ 15 8) (cJ (nQ 15 9) (cJ (nQ 15 12) (cJ (nQ 15 11) (cJ (nQ 15 13) (cJ (nQ 15 14) (cJ (eQ 15) (cJ @bI @bJ))))))))))) ?_
  refine xL ?_
  refine dS a0 @bI @bJ ?_
  refine dG ?_
  exact ⟨rfl, by repeat (first | exact oV | refine Kp.set ?_ (by omega) _)⟩
 by_cases e16 : k = 16
 ·subst e16
  have oV : Kp σ ((σ.push ⟨1, 54, 0, [.int .i64 16, .int .i64 at0, .string t, .slice a1 names.length jA, .slice a2 es.length jc, .slice a3 qs.length jT, .slice a4 wh.length mF, .slice a5 body.length mX, .slice a6 other.length ng]⟩).push ⟨1, 118, 0, [.int .i64 0, .int .i64 0, .int .i64 0, .int .i64 0, .int .i64 0, .int .i64 0, .int .i64 0]⟩) := ((Kp.refl σ).push _).push _
  refine aY a0 (nQ 16 1) (nQ 16 17) (nQ 16 2) (nQ 16 3) (nQ 16 4) (nQ 16 10) (cJ (nQ 16 5) (cJ (nQ 16 6) (cJ (nQ 16 7) (cJ (nQ 16 8) (cJ (nQ 16 9) (cJ (nQ 16 12) (cJ (nQ 16 11) (cJ (nQ 16 13) (cJ (nQ 16 14) (cJ (nQ 16 15) (cJ (eQ 16) (cJ @bI @bJ)))))))))))) ?_
  refine xL ?_
  refine dS a0 @bI @bJ ?_
  refine dG ?_
  exact ⟨rfl, by repeat (first | exact oV | refine Kp.set ?_ (by omega) _)⟩
 have c1 : (k == 1) = false := by simp only [beq_eq_false_iff_ne]; exact e1
 have c17 : (k == 17) = false := by simp only [beq_eq_false_iff_ne]; exact e17
 have c2 : (k == 2) = false := by simp only [beq_eq_false_iff_ne]; exact e2
 have c3 : (k == 3) = false := by simp only [beq_eq_false_iff_ne]; exact e3
 have c4 : (k == 4) = false := by simp only [beq_eq_false_iff_ne]; exact e4
 have c10 : (k == 10) = false := by simp only [beq_eq_false_iff_ne]; exact e10
 have c5 : (k == 5) = false := by simp only [beq_eq_false_iff_ne]; exact e5
 have c6 : (k == 6) = false := by simp only [beq_eq_false_iff_ne]; exact e6
 have c7 : (k == 7) = false := by simp only [beq_eq_false_iff_ne]; exact e7
 have c8 : (k == 8) = false := by simp only [beq_eq_false_iff_ne]; exact e8
 have c9 : (k == 9) = false := by simp only [beq_eq_false_iff_ne]; exact e9
 have c12 : (k == 12) = false := by simp only [beq_eq_false_iff_ne]; exact e12
 have c11 : (k == 11) = false := by simp only [beq_eq_false_iff_ne]; exact e11
 have c13 : (k == 13) = false := by simp only [beq_eq_false_iff_ne]; exact e13
 have c14 : (k == 14) = false := by simp only [beq_eq_false_iff_ne]; exact e14
 have c15 : (k == 15) = false := by simp only [beq_eq_false_iff_ne]; exact e15
 have c16 : (k == 16) = false := by simp only [beq_eq_false_iff_ne]; exact e16
 have hw : xK k names es wh body other = none := by unfold xK; simp [e1, e17, e2, e3, e4, e10, e5, e6, e7, e8, e9, e12, e11, e13, e14, e15, e16]
 rw [hw]
 have oV : Kp σ ((σ.push ⟨1, 54, 0, [.int .i64 k, .int .i64 at0, .string t, .slice a1 names.length jA, .slice a2 es.length jc, .slice a3 qs.length jT, .slice a4 wh.length mF, .slice a5 body.length mX, .slice a6 other.length ng]⟩).push ⟨1, 118, 0, [.int .i64 0, .int .i64 0, .int .i64 0, .int .i64 0, .int .i64 0, .int .i64 0, .int .i64 0]⟩) := ((Kp.refl σ).push _).push _
 refine aY a0 c1 c17 c2 c3 c4 c10 (cJ c5 (cJ c6 (cJ c7 (cJ c8 (cJ c9 (cJ c12 (cJ c11 (cJ c13 (cJ c14 (cJ c15 c16)))))))))) ?_
 refine xL ?_
 refine jR a0 ?_
 refine dG ?_
 exact ⟨rfl, by repeat (first | exact oV | refine Kp.set ?_ (by omega) _)⟩
theorem TP {σ : AW} {k at0 : Int} {t : ByteArray} {names es qs wh body other : List Tr} {x : Value} (hx : bW (mkS k at0 t names es qs wh body other) x σ) : C Tryz.prog 67 [x] σ fun v σ' => v = FP (uy t names es qs wh body other) ∧ Kp σ σ' := by
 obtain ⟨v1, v2, v3, v4, v5, v6, rfl, r1, r2, r3, r4, r5, r6⟩ := sJ hx
 obtain ⟨a1, jA, rfl⟩ := aG r1
 obtain ⟨a2, jc, rfl⟩ := aG r2
 obtain ⟨a3, jT, rfl⟩ := aG r3
 obtain ⟨a4, mF, rfl⟩ := aG r4
 obtain ⟨a5, mX, rfl⟩ := aG r5
 obtain ⟨a6, ng, rfl⟩ := aG r6
 refine pK Tryz.func67 Tryz.ntmps67 Tryz.results67 fun A hz a0 => ?_
 have oV : Kp σ (((σ.push ⟨1, 54, 0, [.int .i64 k, .int .i64 at0, .string t, .slice a1 names.length jA, .slice a2 es.length jc, .slice a3 qs.length jT, .slice a4 wh.length mF, .slice a5 body.length mX, .slice a6 other.length ng]⟩).push ⟨1, 118, 0, [.int .i64 0, .int .i64 0, .int .i64 0, .int .i64 0, .int .i64 0, .int .i64 0, .int .i64 0]⟩).push ⟨1, 118, 0, [.int .i64 0, .int .i64 0, .int .i64 0, .int .i64 0, .int .i64 0, .int .i64 0, .int .i64 0]⟩) := (((Kp.refl σ).push _).push _).push _
 by_cases ht : t = eB
 ·have c1 : decide (t = (⟨#[]⟩ : ByteArray)) = true := decide_eq_true ht
  have e : uy t names es qs wh body other = [0, names.length, es.length, qs.length, wh.length, body.length, other.length] := by unfold uy; rw [if_pos ht]
  rw [e]
  refine gQ a0 c1 ?_
  refine dG ?_
  exact ⟨rfl, by repeat (first | exact oV | refine Kp.set ?_ (by omega) _)⟩
 ·have c1 : decide (t = (⟨#[]⟩ : ByteArray)) = false := decide_eq_false ht
  have e : uy t names es qs wh body other = [1, names.length, es.length, qs.length, wh.length, body.length, other.length] := by unfold uy; rw [if_neg ht]
  rw [e]
  refine gQ a0 c1 ?_
  refine dG ?_
  exact ⟨rfl, by repeat (first | exact oV | refine Kp.set ?_ (by omega) _)⟩
end Go.Proofs.YthogkmcahnkkoaaGreatDoor
