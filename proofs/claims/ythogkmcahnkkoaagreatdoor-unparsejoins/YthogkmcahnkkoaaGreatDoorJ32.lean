/- What package unparse asks of lists (more of them). -/
import Derived.Test.YthogkmcahnkkoaaGreatDoorJ27
namespace Go.Proofs.YthogkmcahnkkoaaGreatDoor
open Go.RowKit
set_option maxRecDepth 10000
set_option linter.unusedSimpArgs false
set_option linter.unusedVariables false
theorem AL {ps : List Tr} {R : Tr → Bool} {v : Value} {g : Nat} {fs cs : List Value} (hlen : ps.length ≤ 4611686018427387904) (hs : ∀ p ∈ ps, ShT 7 p) (hf : ∀ p ∈ ps, ∀ x, bV (bW p x) g (fs ++ [x] ++ cs) (R p)) :
  bV (bW (sl 7 ps) v) 128 [v, .func (.func g) ⟨fs⟩ ⟨cs⟩] (ps.all R) := by
 intro σ hv
 have l1 : ∀ τ, fF Tryz.prog τ 57 v = some (.int .i64 ps.length) := fun τ => by obtain ⟨a, c, rfl⟩ := aG hv; exact U2 τ a _ c
 refine fG Tryz.func128 Tryz.ntmps128 Tryz.results128 fun A hz a0 a1 => ?_
 refine dS a0 a1 l1 ?_
 refine dB (dI (fun m B σ1 => ∃ j, j ≤ ps.length ∧ m = ps.length - j ∧ B.size = 18 ∧ B.get 1 = some (.func (.func g) ⟨fs⟩ ⟨cs⟩) ∧ B.get 7 = some v ∧ B.get 8 = some (.int .i64 (ps.length : Int)) ∧ B.get 9 = some (.int .i64 (j : Int)) ∧ Kp σ σ1 ∧ (ps.take j).all R = true) ?_ (m := ps.length) (by refine' ⟨0, Nat.zero_le _, rfl, ?_, ?_, ?_, ?_, ?_, Kp.refl σ, rfl⟩; any_goals (first | exact aU a1 | fail)))
 rintro m B σ1 ⟨j, hj, rfl, hz, b1, b7, b8, b9, k1, hall⟩
 by_cases hlt : j < ps.length
 ·have c1 : decide ((j : Int) < (ps.length : Int)) = true := by simp [hlt]
  have hv1 := bW.kp hv k1
  obtain ⟨bb, o, c, cs0, x, rfl, hrow, hel, htk, hx, hxl⟩ := qo hv1 PY hlt
  have hp := List.getElem_mem hlt
  have hr1 := hrow _ (Kp.refl σ1)
  have hadd : aT .add (.int .i64 (j : Int)) (.int .i64 1) = some (.int .i64 ((j + 1 : Nat) : Int)) := by rw [aH (by omega) (by omega)]; rfl
  obtain ⟨l, rfl, hl, ho⟩ := eG (hs _ hp) hx
  simp only [aF] at htk hxl
  refine iC hr1 b1 b7 b8 b9 c1 hel htk (cJ hl ho) ?_
  refine aj (aU b1) ?_
  refine C.mono (hf _ hp _ _ (bW.kp hx (((Kp.refl σ1).push _).set (Nat.le_refl _) _))) ?_
  rintro _ σ2 ⟨rfl, k2⟩
  cases hR : R ps[j] with
  | true =>
   refine jy b1 b7 b8 b9 hadd ?_
   exact (by refine' ⟨ps.length - (j + 1), by omega, j + 1, hlt, rfl, ?_, ?_, ?_, ?_, ?_, k1.trans (((((Kp.refl σ1).push _).set (Nat.le_refl _) _)).trans k2), oz R hlt hall hR⟩; any_goals (first | exact lF b1 b7 b8 | fail))
  | false =>
   refine dV b1 b7 b8 b9 ?_
   refine dG ?_
   exact ⟨by rw [qM R hlt hR], k1.trans (((((Kp.refl σ1).push _).set (Nat.le_refl _) _)).trans k2)⟩
 ·have c1 : decide ((j : Int) < (ps.length : Int)) = false := by simp [hlt]
  rw [List.take_of_length_le (by omega)] at hall
  refine jy b1 b7 b8 b9 c1 ?_
  refine iH ?_; simp only [Then, Out, iy, reduceIte, Nat.reduceEqDiff]
  refine iO ?_
  refine dG ?_
  exact ⟨by rw [hall], k1⟩
theorem vw {ps : List Tr} {R : Tr → Bool} {v : Value} {g : Nat} {fs cs : List Value} (hlen : ps.length ≤ 4611686018427387904) (hs : ∀ p ∈ ps, ShT 7 p) (hf : ∀ p ∈ ps, ∀ x, bV (bW p x) g (fs ++ [x] ++ cs) (R p)) :
  bV (bW (sl 7 ps) v) 130 [v, .func (.func g) ⟨fs⟩ ⟨cs⟩] (ps.all R) := by
 intro σ hv
 have l1 : ∀ τ, fF Tryz.prog τ 58 v = some (.int .i64 ps.length) := fun τ => by obtain ⟨a, c, rfl⟩ := aG hv; exact PW τ a _ c
 refine fG Tryz.func130 Tryz.ntmps130 Tryz.results130 fun A hz a0 a1 => ?_
 refine dS a0 a1 l1 ?_
 refine dB (dI (fun m B σ1 => ∃ j, j ≤ ps.length ∧ m = ps.length - j ∧ B.size = 18 ∧ B.get 1 = some (.func (.func g) ⟨fs⟩ ⟨cs⟩) ∧ B.get 7 = some v ∧ B.get 8 = some (.int .i64 (ps.length : Int)) ∧ B.get 9 = some (.int .i64 (j : Int)) ∧ Kp σ σ1 ∧ (ps.take j).all R = true) ?_ (m := ps.length) (by refine' ⟨0, Nat.zero_le _, rfl, ?_, ?_, ?_, ?_, ?_, Kp.refl σ, rfl⟩; any_goals (first | exact aU a1 | fail)))
 rintro m B σ1 ⟨j, hj, rfl, hz, b1, b7, b8, b9, k1, hall⟩
 by_cases hlt : j < ps.length
 ·have c1 : decide ((j : Int) < (ps.length : Int)) = true := by simp [hlt]
  have hv1 := bW.kp hv k1
  obtain ⟨bb, o, c, cs0, x, rfl, hrow, hel, htk, hx, hxl⟩ := qo hv1 yE hlt
  have hp := List.getElem_mem hlt
  have hr1 := hrow _ (Kp.refl σ1)
  have hadd : aT .add (.int .i64 (j : Int)) (.int .i64 1) = some (.int .i64 ((j + 1 : Nat) : Int)) := by rw [aH (by omega) (by omega)]; rfl
  obtain ⟨l, rfl, hl, ho⟩ := eG (hs _ hp) hx
  simp only [aF] at htk hxl
  refine iC hr1 b1 b7 b8 b9 c1 hel htk (cJ hl ho) ?_
  refine aj (aU b1) ?_
  refine C.mono (hf _ hp _ _ (bW.kp hx (((Kp.refl σ1).push _).set (Nat.le_refl _) _))) ?_
  rintro _ σ2 ⟨rfl, k2⟩
  cases hR : R ps[j] with
  | true =>
   refine jy b1 b7 b8 b9 hadd ?_
   exact (by refine' ⟨ps.length - (j + 1), by omega, j + 1, hlt, rfl, ?_, ?_, ?_, ?_, ?_, k1.trans (((((Kp.refl σ1).push _).set (Nat.le_refl _) _)).trans k2), oz R hlt hall hR⟩; any_goals (first | exact lF b1 b7 b8 | fail))
  | false =>
   refine dV b1 b7 b8 b9 ?_
   refine dG ?_
   exact ⟨by rw [qM R hlt hR], k1.trans (((((Kp.refl σ1).push _).set (Nat.le_refl _) _)).trans k2)⟩
 ·have c1 : decide ((j : Int) < (ps.length : Int)) = false := by simp [hlt]
  rw [List.take_of_length_le (by omega)] at hall
  refine jy b1 b7 b8 b9 c1 ?_
  refine iH ?_; simp only [Then, Out, iy, reduceIte, Nat.reduceEqDiff]
  refine iO ?_
  refine dG ?_
  exact ⟨by rw [hall], k1⟩
theorem AO {ps : List Tr} {R : Tr → Bool} {v : Value} {g : Nat} {fs cs : List Value} (hlen : ps.length ≤ 4611686018427387904) (hs : ∀ p ∈ ps, ShT 7 p) (hf : ∀ p ∈ ps, ∀ x, bV (bW p x) g (fs ++ [x] ++ cs) (R p)) :
  bV (bW (sl 7 ps) v) 132 [v, .func (.func g) ⟨fs⟩ ⟨cs⟩] (ps.all R) := by
 intro σ hv
 have l1 : ∀ τ, fF Tryz.prog τ 59 v = some (.int .i64 ps.length) := fun τ => by obtain ⟨a, c, rfl⟩ := aG hv; exact PX τ a _ c
 refine fG Tryz.func132 Tryz.ntmps132 Tryz.results132 fun A hz a0 a1 => ?_
 refine dS a0 a1 l1 ?_
 refine dB (dI (fun m B σ1 => ∃ j, j ≤ ps.length ∧ m = ps.length - j ∧ B.size = 18 ∧ B.get 1 = some (.func (.func g) ⟨fs⟩ ⟨cs⟩) ∧ B.get 7 = some v ∧ B.get 8 = some (.int .i64 (ps.length : Int)) ∧ B.get 9 = some (.int .i64 (j : Int)) ∧ Kp σ σ1 ∧ (ps.take j).all R = true) ?_ (m := ps.length) (by refine' ⟨0, Nat.zero_le _, rfl, ?_, ?_, ?_, ?_, ?_, Kp.refl σ, rfl⟩; any_goals (first | exact aU a1 | fail)))
 rintro m B σ1 ⟨j, hj, rfl, hz, b1, b7, b8, b9, k1, hall⟩
 by_cases hlt : j < ps.length
 ·have c1 : decide ((j : Int) < (ps.length : Int)) = true := by simp [hlt]
  have hv1 := bW.kp hv k1
  obtain ⟨bb, o, c, cs0, x, rfl, hrow, hel, htk, hx, hxl⟩ := qo hv1 PZ hlt
  have hp := List.getElem_mem hlt
  have hr1 := hrow _ (Kp.refl σ1)
  have hadd : aT .add (.int .i64 (j : Int)) (.int .i64 1) = some (.int .i64 ((j + 1 : Nat) : Int)) := by rw [aH (by omega) (by omega)]; rfl
  obtain ⟨l, rfl, hl, ho⟩ := eG (hs _ hp) hx
  simp only [aF] at htk hxl
  refine iC hr1 b1 b7 b8 b9 c1 hel htk (cJ hl ho) ?_
  refine aj (aU b1) ?_
  refine C.mono (hf _ hp _ _ (bW.kp hx (((Kp.refl σ1).push _).set (Nat.le_refl _) _))) ?_
  rintro _ σ2 ⟨rfl, k2⟩
  cases hR : R ps[j] with
  | true =>
   refine jy b1 b7 b8 b9 hadd ?_
   exact (by refine' ⟨ps.length - (j + 1), by omega, j + 1, hlt, rfl, ?_, ?_, ?_, ?_, ?_, k1.trans (((((Kp.refl σ1).push _).set (Nat.le_refl _) _)).trans k2), oz R hlt hall hR⟩; any_goals (first | exact lF b1 b7 b8 | fail))
  | false =>
   refine dV b1 b7 b8 b9 ?_
   refine dG ?_
   exact ⟨by rw [qM R hlt hR], k1.trans (((((Kp.refl σ1).push _).set (Nat.le_refl _) _)).trans k2)⟩
 ·have c1 : decide ((j : Int) < (ps.length : Int)) = false := by simp [hlt]
  rw [List.take_of_length_le (by omega)] at hall
  refine jy b1 b7 b8 b9 c1 ?_
  refine iH ?_; simp only [Then, Out, iy, reduceIte, Nat.reduceEqDiff]
  refine iO ?_
  refine dG ?_
  exact ⟨by rw [hall], k1⟩
theorem vC {ps : List Tr} {R : Tr → Bool} {v : Value} {g : Nat} {fs cs : List Value} (hlen : ps.length ≤ 4611686018427387904) (hs : ∀ p ∈ ps, ShT 9 p) (hf : ∀ p ∈ ps, ∀ x, bV (bW p x) g (fs ++ [x] ++ cs) (R p)) :
  bV (bW (sl 9 ps) v) 31 [v, .func (.func g) ⟨fs⟩ ⟨cs⟩] (ps.all R) := by
 intro σ hv
 have l1 : ∀ τ, fF Tryz.prog τ 24 v = some (.int .i64 ps.length) := fun τ => by obtain ⟨a, c, rfl⟩ := aG hv; exact KH τ a _ c
 refine fG Tryz.func31 Tryz.ntmps31 Tryz.results31 fun A hz a0 a1 => ?_
 refine dS a0 a1 l1 ?_
 refine dB (dI (fun m B σ1 => ∃ j, j ≤ ps.length ∧ m = ps.length - j ∧ B.size = 18 ∧ B.get 1 = some (.func (.func g) ⟨fs⟩ ⟨cs⟩) ∧ B.get 7 = some v ∧ B.get 8 = some (.int .i64 (ps.length : Int)) ∧ B.get 9 = some (.int .i64 (j : Int)) ∧ Kp σ σ1 ∧ (ps.take j).all R = true) ?_ (m := ps.length) (by refine' ⟨0, Nat.zero_le _, rfl, ?_, ?_, ?_, ?_, ?_, Kp.refl σ, rfl⟩; any_goals (first | exact aU a1 | fail)))
 rintro m B σ1 ⟨j, hj, rfl, hz, b1, b7, b8, b9, k1, hall⟩
 by_cases hlt : j < ps.length
 ·have c1 : decide ((j : Int) < (ps.length : Int)) = true := by simp [hlt]
  have hv1 := bW.kp hv k1
  obtain ⟨bb, o, c, cs0, x, rfl, hrow, hel, htk, hx, hxl⟩ := qo hv1 PV hlt
  have hp := List.getElem_mem hlt
  have hr1 := hrow _ (Kp.refl σ1)
  have hadd : aT .add (.int .i64 (j : Int)) (.int .i64 1) = some (.int .i64 ((j + 1 : Nat) : Int)) := by rw [aH (by omega) (by omega)]; rfl
  obtain ⟨l, rfl, hl, ho⟩ := eG (hs _ hp) hx
  simp only [aF] at htk hxl
  refine iC hr1 b1 b7 b8 b9 c1 hel htk (cJ hl ho) ?_
  refine aj (aU b1) ?_
  refine C.mono (hf _ hp _ _ (bW.kp hx (((Kp.refl σ1).push _).set (Nat.le_refl _) _))) ?_
  rintro _ σ2 ⟨rfl, k2⟩
  cases hR : R ps[j] with
  | true =>
   refine jy b1 b7 b8 b9 hadd ?_
   exact (by refine' ⟨ps.length - (j + 1), by omega, j + 1, hlt, rfl, ?_, ?_, ?_, ?_, ?_, k1.trans (((((Kp.refl σ1).push _).set (Nat.le_refl _) _)).trans k2), oz R hlt hall hR⟩; any_goals (first | exact lF b1 b7 b8 | fail))
  | false =>
   refine dV b1 b7 b8 b9 ?_
   refine dG ?_
   exact ⟨by rw [qM R hlt hR], k1.trans (((((Kp.refl σ1).push _).set (Nat.le_refl _) _)).trans k2)⟩
 ·have c1 : decide ((j : Int) < (ps.length : Int)) = false := by simp [hlt]
  rw [List.take_of_length_le (by omega)] at hall
  refine jy b1 b7 b8 b9 c1 ?_
  refine iH ?_; simp only [Then, Out, iy, reduceIte, Nat.reduceEqDiff]
  refine iO ?_
  refine dG ?_
  exact ⟨by rw [hall], k1⟩
theorem Xe {ps : List Tr} {R : Tr → Bool} {v : Value} {g : Nat} {fs cs : List Value} (hlen : ps.length ≤ 4611686018427387904) (hs : ∀ p ∈ ps, ShT 2 p) (hf : ∀ p ∈ ps, ∀ x, bV (bW p x) g (fs ++ [x] ++ cs) (R p)) :
  bV (bW (sl 2 ps) v) 27 [v, .func (.func g) ⟨fs⟩ ⟨cs⟩] (ps.all R) := by
 intro σ hv
 have l1 : ∀ τ, fF Tryz.prog τ 22 v = some (.int .i64 ps.length) := fun τ => by obtain ⟨a, c, rfl⟩ := aG hv; exact Z7 τ a _ c
 refine fG Tryz.func27 Tryz.ntmps27 Tryz.results27 fun A hz a0 a1 => ?_
 refine dS a0 a1 l1 ?_
 refine dB (dI (fun m B σ1 => ∃ j, j ≤ ps.length ∧ m = ps.length - j ∧ B.size = 18 ∧ B.get 1 = some (.func (.func g) ⟨fs⟩ ⟨cs⟩) ∧ B.get 7 = some v ∧ B.get 8 = some (.int .i64 (ps.length : Int)) ∧ B.get 9 = some (.int .i64 (j : Int)) ∧ Kp σ σ1 ∧ (ps.take j).all R = true) ?_ (m := ps.length) (by refine' ⟨0, Nat.zero_le _, rfl, ?_, ?_, ?_, ?_, ?_, Kp.refl σ, rfl⟩; any_goals (first | exact aU a1 | fail)))
 rintro m B σ1 ⟨j, hj, rfl, hz, b1, b7, b8, b9, k1, hall⟩
 by_cases hlt : j < ps.length
 ·have c1 : decide ((j : Int) < (ps.length : Int)) = true := by simp [hlt]
  have hv1 := bW.kp hv k1
  obtain ⟨bb, o, c, cs0, x, rfl, hrow, hel, htk, hx, hxl⟩ := qo hv1 aag hlt
  have hp := List.getElem_mem hlt
  have hr1 := hrow _ (Kp.refl σ1)
  have hadd : aT .add (.int .i64 (j : Int)) (.int .i64 1) = some (.int .i64 ((j + 1 : Nat) : Int)) := by rw [aH (by omega) (by omega)]; rfl
  obtain ⟨l, rfl, hl, ho⟩ := eG (hs _ hp) hx
  simp only [aF] at htk hxl
  refine iC hr1 b1 b7 b8 b9 c1 hel htk (cJ hl ho) ?_
  refine aj (aU b1) ?_
  refine C.mono (hf _ hp _ _ (bW.kp hx (((Kp.refl σ1).push _).set (Nat.le_refl _) _))) ?_
  rintro _ σ2 ⟨rfl, k2⟩
  cases hR : R ps[j] with
  | true =>
   refine jy b1 b7 b8 b9 hadd ?_
   exact (by refine' ⟨ps.length - (j + 1), by omega, j + 1, hlt, rfl, ?_, ?_, ?_, ?_, ?_, k1.trans (((((Kp.refl σ1).push _).set (Nat.le_refl _) _)).trans k2), oz R hlt hall hR⟩; any_goals (first | exact lF b1 b7 b8 | fail))
  | false =>
   refine dV b1 b7 b8 b9 ?_
   refine dG ?_
   exact ⟨by rw [qM R hlt hR], k1.trans (((((Kp.refl σ1).push _).set (Nat.le_refl _) _)).trans k2)⟩
 ·have c1 : decide ((j : Int) < (ps.length : Int)) = false := by simp [hlt]
  rw [List.take_of_length_le (by omega)] at hall
  refine jy b1 b7 b8 b9 c1 ?_
  refine iH ?_; simp only [Then, Out, iy, reduceIte, Nat.reduceEqDiff]
  refine iO ?_
  refine dG ?_
  exact ⟨by rw [hall], k1⟩
theorem Xf {ps : List Tr} {R : Tr → Bool} {v : Value} {g : Nat} {fs cs : List Value} (hlen : ps.length ≤ 4611686018427387904) (hs : ∀ p ∈ ps, ShT 4 p) (hf : ∀ p ∈ ps, ∀ x, bV (bW p x) g (fs ++ [x] ++ cs) (R p)) :
  bV (bW (sl 4 ps) v) 29 [v, .func (.func g) ⟨fs⟩ ⟨cs⟩] (ps.all R) := by
 intro σ hv
 have l1 : ∀ τ, fF Tryz.prog τ 23 v = some (.int .i64 ps.length) := fun τ => by obtain ⟨a, c, rfl⟩ := aG hv; exact Z8 τ a _ c
 refine fG Tryz.func29 Tryz.ntmps29 Tryz.results29 fun A hz a0 a1 => ?_
 refine dS a0 a1 l1 ?_
 refine dB (dI (fun m B σ1 => ∃ j, j ≤ ps.length ∧ m = ps.length - j ∧ B.size = 18 ∧ B.get 1 = some (.func (.func g) ⟨fs⟩ ⟨cs⟩) ∧ B.get 7 = some v ∧ B.get 8 = some (.int .i64 (ps.length : Int)) ∧ B.get 9 = some (.int .i64 (j : Int)) ∧ Kp σ σ1 ∧ (ps.take j).all R = true) ?_ (m := ps.length) (by refine' ⟨0, Nat.zero_le _, rfl, ?_, ?_, ?_, ?_, ?_, Kp.refl σ, rfl⟩; any_goals (first | exact aU a1 | fail)))
 rintro m B σ1 ⟨j, hj, rfl, hz, b1, b7, b8, b9, k1, hall⟩
 by_cases hlt : j < ps.length
 ·have c1 : decide ((j : Int) < (ps.length : Int)) = true := by simp [hlt]
  have hv1 := bW.kp hv k1
  obtain ⟨bb, o, c, cs0, x, rfl, hrow, hel, htk, hx, hxl⟩ := qo hv1 Z9 hlt
  have hp := List.getElem_mem hlt
  have hr1 := hrow _ (Kp.refl σ1)
  have hadd : aT .add (.int .i64 (j : Int)) (.int .i64 1) = some (.int .i64 ((j + 1 : Nat) : Int)) := by rw [aH (by omega) (by omega)]; rfl
  obtain ⟨l, rfl, hl, ho⟩ := eG (hs _ hp) hx
  simp only [aF] at htk hxl
  refine iC hr1 b1 b7 b8 b9 c1 hel htk (cJ hl ho) ?_
  refine aj (aU b1) ?_
  refine C.mono (hf _ hp _ _ (bW.kp hx (((Kp.refl σ1).push _).set (Nat.le_refl _) _))) ?_
  rintro _ σ2 ⟨rfl, k2⟩
  cases hR : R ps[j] with
  | true =>
   refine jy b1 b7 b8 b9 hadd ?_
   exact (by refine' ⟨ps.length - (j + 1), by omega, j + 1, hlt, rfl, ?_, ?_, ?_, ?_, ?_, k1.trans (((((Kp.refl σ1).push _).set (Nat.le_refl _) _)).trans k2), oz R hlt hall hR⟩; any_goals (first | exact lF b1 b7 b8 | fail))
  | false =>
   refine dV b1 b7 b8 b9 ?_
   refine dG ?_
   exact ⟨by rw [qM R hlt hR], k1.trans (((((Kp.refl σ1).push _).set (Nat.le_refl _) _)).trans k2)⟩
 ·have c1 : decide ((j : Int) < (ps.length : Int)) = false := by simp [hlt]
  rw [List.take_of_length_le (by omega)] at hall
  refine jy b1 b7 b8 b9 c1 ?_
  refine iH ?_; simp only [Then, Out, iy, reduceIte, Nat.reduceEqDiff]
  refine iO ?_
  refine dG ?_
  exact ⟨by rw [hall], k1⟩
end Go.Proofs.YthogkmcahnkkoaaGreatDoor
