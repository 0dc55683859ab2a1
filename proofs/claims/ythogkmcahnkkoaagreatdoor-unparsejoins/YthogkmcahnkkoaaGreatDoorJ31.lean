/- Which expressions package unparse takes for right. -/
import Derived.Test.YthogkmcahnkkoaaGreatDoorJ30
namespace Go.Proofs.YthogkmcahnkkoaaGreatDoor
open Go.RowKit
set_option maxRecDepth 10000
set_option linter.unusedSimpArgs false
set_option linter.unusedVariables false
set_option maxHeartbeats 4000000
theorem dK (a b : Nat) : (a == b) = ((a : Int) == (b : Int)) := by
 by_cases h : a = b
 ·subst h; simp
 ·have : ¬ (a : Int) = (b : Int) := by omega
  rw [beq_eq_false_iff_ne.2 h, beq_eq_false_iff_ne.2 this]
theorem vg {σ : AW} {N e c z : Nat} {ps vs : List Value} (hg : σ.get N = ⟨1, e, z, vs⟩) (hz : z ≠ 0) (hN : N < σ.next) (hr : nG σ (fun _ => True) ps vs) (h1 : ∀ v ∈ vs, aF v = [v]) : bW (sl 1 ps) (.slice (some ⟨N, 0, none⟩) vs.length c) σ := by
 have e1 : vs.flatMap aF = vs := by
  clear hg hr
  induction vs with
  | nil => rfl
  | cons v vs ih => rw [List.flatMap_cons, h1 v (List.mem_cons_self ..), ih (fun u hu => h1 u (List.mem_cons_of_mem _ hu))]; rfl
 exact NV (by rw [e1]; exact hg) hz hN trivial hr (fun v hv => by rw [h1 v hv]; rfl)
theorem Zw {σ : AW} {D : Nat → Prop} {n : Nat} {l : List Tr} {v : Value} (h : Rd σ D (sl n l) v) : aF v = [v] := by
 obtain ⟨a, c, rfl⟩ := aG h
 rfl
theorem Zx {T : ByteArray → Bool} {m : Nat} (hT : ∀ s : ByteArray, s.size ≤ 1200 → bV (fun _ => True) 46 [.string s] (T s)) (hE : ∀ p, (bT b0 m).e p → ∀ x, bV (bW p x) 21 [x] ((eP T m).e p)) (hQ : ∀ p, (bT b0 m).q p → ∀ x, bV (bW p x) 53 [x] ((eP T m).q p))
  {k n : Int} {s t : ByteArray} {kids qs : List Tr} (hss : SS b0 s) (hts : SS b0 t) (hkl : LL b0 (bT b0 m).e kids) (Zy : LL b0 (bT b0 m).q qs) {x : Value} :
  bV (bW (kH k n s t kids qs) x) 21 [x] (FI T (eP T m) k n s t kids qs) := by
 intro σ hx
 obtain ⟨vk, vq, rfl, rk, rq⟩ := qL hx
 obtain ⟨ak, ck, rfl⟩ := aG rk
 obtain ⟨aq, cq, rfl⟩ := aG rq
 have o4 := ay rk
 have o5 := ay rq
 have hs0 : s.size ≤ 1200 := hss
 have ht0 : t.size ≤ 1200 := hts
 have l1 : ∀ τ, fF Tryz.prog τ 39 (.slice ak kids.length ck) = some (.int .i64 kids.length) := fun τ => Df τ _ _ _
 have l2 : ∀ τ, fF Tryz.prog τ 40 (.slice aq qs.length cq) = some (.int .i64 qs.length) := fun τ => He τ _ _ _
 have kp : Kp σ (σ.push ⟨1, 42, 0, [.int .i64 k, .int .i64 n, .string s, .string t, (.slice ak kids.length ck), (.slice aq qs.length cq)]⟩) := (Kp.refl σ).push _
 refine pK Tryz.func21 Tryz.ntmps21 Tryz.results21 fun A hz a0 => ?_
 repeat (first | apply C9 | apply zD | ((first | apply zC | (refine' zG rfl rfl ?_ ?_; rotate_left)); (focus (first | exact lF a0 o4 o5 | fail)); with_reducible first | apply zF | apply g_1 | apply g_2 | apply jO | apply lV) | apply Dc | apply Bj | apply yD)
 refine WB (fun B σ1 => ∃ (ok : Bool) (n' : Int) (s' t' : ByteArray) (nk nq : Nat), B.size = 119 ∧ B.get 1 = some (.pointer (some ⟨σ.next, 0, none⟩)) ∧ B.get 3 = some (.int .i64 (nk : Int)) ∧ B.get 4 = some (.int .i64 (nq : Int)) ∧ B.get 5 = some (.bool ok) ∧ Kp σ σ1 ∧ σ1.get σ.next = ⟨1, 42, 0, [.int .i64 k, .int .i64 n', .string s', .string t', (.slice ak kids.length ck), (.slice aq qs.length cq)]⟩ ∧ σ.next < σ1.next ∧ FI T (eP T m) k n s t kids qs = jL (eP T m) ok n' s' t' nk nq kids qs) ?_ ?_
 ·by_cases e1 : k = 1
  ·subst e1
   refine dV a0 o4 o5 (eQ 1) ?_
   refine xL ?_
   refine iO ?_
   refine xL ?_
   exact (by refine' ⟨true, n, s, t, 0, 0, ?_, ?_, ?_, ?_, ?_, kp, ?_, by first | (simp only [ah, au]; omega) | omega, rfl⟩; any_goals (first | exact dD | fail))
  have c1 : (k == 1) = false := by simp only [beq_eq_false_iff_ne]; exact e1
  by_cases e2 : k = 2
  ·subst e2
   refine jy a0 o4 o5 (nQ 2 1) (eQ 2) ?_
   refine xL ?_
   refine dS a0 o4 o5 ?_
   refine aj (aU a0) ?_
   refine C.mono (Jz n _ trivial) ?_
   rintro _ σ1 ⟨rfl, k1⟩
   have g1 := (k1.get σ.next (Nat.lt_succ_self _)).trans aA
   have n1 := k1.next
   rw [ah] at n1
   have K1 : ∀ B, Kp σ (σ1.set σ.next B) := fun B => (kp.trans k1).set (Nat.le_refl _) B
   refine dV a0 g1 o4 o5 ?_
   refine xL ?_
   exact (by refine' ⟨AA n, 0, s, t, 0, 0, ?_, ?_, ?_, ?_, ?_, K1 _, (bF), by first | (simp only [ah, au]; omega) | omega, rfl⟩; any_goals (first | exact dD | fail))
  have c2 : (k == 2) = false := by simp only [beq_eq_false_iff_ne]; exact e2
  by_cases e3 : k = 3
  ·subst e3
   refine kR a0 o4 o5 (nQ 3 1) (nQ 3 2) (eQ 3) ?_
   refine xL ?_
   refine dS a0 o4 o5 ?_
   refine aj (aU a0) ?_
   refine C.mono (OT n _ trivial) ?_
   rintro _ σ1 ⟨rfl, k1⟩
   have g1 := (k1.get σ.next (Nat.lt_succ_self _)).trans aA
   have n1 := k1.next
   rw [ah] at n1
   have K1 : ∀ B, Kp σ (σ1.set σ.next B) := fun B => (kp.trans k1).set (Nat.le_refl _) B
   refine dV a0 g1 o4 o5 ?_
   refine xL ?_
   exact (by refine' ⟨MC n, 0, s, t, 0, 0, ?_, ?_, ?_, ?_, ?_, K1 _, (bF), by first | (simp only [ah, au]; omega) | omega, rfl⟩; any_goals (first | exact dD | fail))
  have c3 : (k == 3) = false := by simp only [beq_eq_false_iff_ne]; exact e3
  by_cases e4 : k = 4
  ·subst e4
   refine nH a0 o4 o5 (nQ 4 1) (nQ 4 2) (nQ 4 3) (eQ 4) ?_
   refine xL ?_
   refine dS a0 o4 o5 ?_
   refine aj (aU a0) ?_
   refine C.mono (hT s hs0 _ trivial) ?_
   rintro _ σ1 ⟨rfl, k1⟩
   have g1 := (k1.get σ.next (Nat.lt_succ_self _)).trans aA
   have n1 := k1.next
   rw [ah] at n1
   have K1 : ∀ B, Kp σ (σ1.set σ.next B) := fun B => (kp.trans k1).set (Nat.le_refl _) B
   refine dV a0 g1 o4 o5 ?_
   refine xL ?_
   exact (by refine' ⟨T s, n, eB, t, 0, 0, ?_, ?_, ?_, ?_, ?_, K1 _, (bF), by first | (simp only [ah, au]; omega) | omega, rfl⟩; any_goals (first | exact dD | fail))
  have c4 : (k == 4) = false := by simp only [beq_eq_false_iff_ne]; exact e4
  by_cases e5 : k = 5
  ·subst e5
   by_cases ht : t = eB
   ·have ct : decide (t = (⟨#[]⟩ : ByteArray)) = true := decide_eq_true ht
    refine aY a0 o4 o5 (nQ 5 1) (nQ 5 2) (nQ 5 3) (nQ 5 4) (cJ (eQ 5) ct) ?_
    refine xL ?_
    refine dV a0 o4 o5 ct ?_
    refine aj (aU a0) ?_
    refine C.mono (pU s (by omega) _ trivial) ?_
    rintro _ σ1 ⟨rfl, k1⟩
    have g1 := (k1.get σ.next (by simp only [au, ah]; omega)).trans bF
    have n1 := k1.next
    simp only [au, ah] at n1
    have K1 : ∀ B, Kp σ (σ1.set σ.next B) := fun B => ((kp.set (Nat.le_refl _) _).trans k1).set (Nat.le_refl _) B
    refine dV a0 g1 o4 o5 ?_
    refine xL ?_
    exact (by refine' ⟨gq s, n, eB, eB, 0, 0, ?_, ?_, ?_, ?_, ?_, K1 _, (bF), by first | (simp only [ah, au]; omega) | omega, by show jL _ ((decide (t = eB) || gq t) && gq s) n eB eB 0 0 kids qs = _; rw [decide_eq_true ht]; rfl⟩; any_goals (first | exact dD | fail))
   ·have ct : decide (t = (⟨#[]⟩ : ByteArray)) = false := decide_eq_false ht
    refine aY a0 o4 o5 (nQ 5 1) (nQ 5 2) (nQ 5 3) (nQ 5 4) (cJ (eQ 5) ct) ?_
    refine xL ?_
    refine dV a0 o4 o5 ct ?_
    refine aj (aU a0) ?_
    refine C.mono (pU t (by omega) _ trivial) ?_
    rintro _ σ0 ⟨rfl, k0⟩
    have g0 := (k0.get σ.next (Nat.lt_succ_self _)).trans aA
    have n0 := k0.next
    rw [ah] at n0
    cases cn : gq t with
    | false =>
     have K1 : ∀ B C, Kp σ ((σ0.set σ.next B).set σ.next C) := fun B C => ((kp.trans k0).set (Nat.le_refl _) B).set (Nat.le_refl _) C
     refine jy a0 g0 o4 o5 cn ?_
     refine xL ?_
     exact (by refine' ⟨false, n, eB, eB, 0, 0, ?_, ?_, ?_, ?_, ?_, K1 _ _, (bF), by first | (simp only [ah, au]; omega) | omega, by show jL _ ((decide (t = eB) || gq t) && gq s) n eB eB 0 0 kids qs = _; rw [decide_eq_false ht, cn]; rfl⟩; any_goals (first | exact dD | fail))
    | true =>
     refine jy a0 g0 o4 o5 cn ?_
     refine aj (aU a0) ?_
     refine C.mono (pU s (by omega) _ trivial) ?_
     rintro _ σ1 ⟨rfl, k1⟩
     have g1 := (k1.get σ.next (by simp only [au]; omega)).trans bF
     have n1 := k1.next
     simp only [au] at n1
     have K1 : ∀ B, Kp σ (σ1.set σ.next B) := fun B => (((kp.trans k0).set (Nat.le_refl _) _).trans k1).set (Nat.le_refl _) B
     refine dV a0 g1 o4 o5 ?_
     refine xL ?_
     exact (by refine' ⟨gq s, n, eB, eB, 0, 0, ?_, ?_, ?_, ?_, ?_, K1 _, (bF), by first | (simp only [ah, au]; omega) | omega, by show jL _ ((decide (t = eB) || gq t) && gq s) n eB eB 0 0 kids qs = _; rw [decide_eq_false ht, cn]; rfl⟩; any_goals (first | exact dD | fail))
  have c5 : (k == 5) = false := by simp only [beq_eq_false_iff_ne]; exact e5
  by_cases e6 : k = 6
  ·subst e6
   refine aY a0 o4 o5 (nQ 6 1) (nQ 6 2) (nQ 6 3) (nQ 6 4) (cJ (nQ 6 5) (eQ 6)) ?_
   refine xL ?_
   refine dS a0 o4 o5 ?_
   refine aj (aU a0) ?_
   refine C.mono (pU s (by omega) _ trivial) ?_
   rintro _ σ1 ⟨rfl, k1⟩
   have g1 := (k1.get σ.next (Nat.lt_succ_self _)).trans aA
   have n1 := k1.next
   rw [ah] at n1
   have K1 : ∀ B, Kp σ (σ1.set σ.next B) := fun B => (kp.trans k1).set (Nat.le_refl _) B
   refine dV a0 g1 o4 o5 ?_
   refine xL ?_
   exact (by refine' ⟨gq s, n, eB, t, 0, 0, ?_, ?_, ?_, ?_, ?_, K1 _, (bF), by first | (simp only [ah, au]; omega) | omega, rfl⟩; any_goals (first | exact dD | fail))
  have c6 : (k == 6) = false := by simp only [beq_eq_false_iff_ne]; exact e6
  by_cases e13 : k = 13
  ·subst e13
   refine aY a0 o4 o5 (nQ 13 1) (nQ 13 2) (nQ 13 3) (nQ 13 4) (cJ (nQ 13 5) (cJ (nQ 13 6) (eQ 13))) ?_
   refine xL ?_
   refine dS a0 o4 o5 ?_
   refine aj (aU a0) ?_
   refine C.mono (Jz n _ trivial) ?_
   rintro _ σ1 ⟨rfl, k1⟩
   have g1 := (k1.get σ.next (Nat.lt_succ_self _)).trans aA
   have n1 := k1.next
   rw [ah] at n1
   have K1 : ∀ B, Kp σ (σ1.set σ.next B) := fun B => (kp.trans k1).set (Nat.le_refl _) B
   refine dV a0 g1 o4 o5 ?_
   refine xL ?_
   exact (by refine' ⟨AA n, 0, s, t, 1, 1, ?_, ?_, ?_, ?_, ?_, K1 _, (bF), by first | (simp only [ah, au]; omega) | omega, rfl⟩; any_goals (first | exact dD | fail))
  have c13 : (k == 13) = false := by simp only [beq_eq_false_iff_ne]; exact e13
  by_cases e9 : k = 9
  ·subst e9
   refine aY a0 o4 o5 (nQ 9 1) (nQ 9 2) (nQ 9 3) (nQ 9 4) (cJ (nQ 9 5) (cJ (nQ 9 6) (cJ (nQ 9 13) (eQ 9)))) ?_
   refine xL ?_
   refine dS a0 o4 o5 ?_
   refine aj (aU a0) ?_
   refine C.mono (Jz n _ trivial) ?_
   rintro _ σ1 ⟨rfl, k1⟩
   have g1 := (k1.get σ.next (Nat.lt_succ_self _)).trans aA
   have n1 := k1.next
   rw [ah] at n1
   have K1 : ∀ B, Kp σ (σ1.set σ.next B) := fun B => (kp.trans k1).set (Nat.le_refl _) B
   refine dV a0 g1 o4 o5 ?_
   refine xL ?_
   exact (by refine' ⟨AA n, 0, s, t, 1, 0, ?_, ?_, ?_, ?_, ?_, K1 _, (bF), by first | (simp only [ah, au]; omega) | omega, rfl⟩; any_goals (first | exact dD | fail))
  have c9 : (k == 9) = false := by simp only [beq_eq_false_iff_ne]; exact e9
  by_cases e7 : k = 7
  ·subst e7
   refine aY a0 o4 o5 (nQ 7 1) (nQ 7 2) (nQ 7 3) (nQ 7 4) (cJ (nQ 7 5) (cJ (nQ 7 6) (cJ (nQ 7 13) (cJ (nQ 7 9) (eQ 7))))) ?_
   refine xL ?_
   refine dS a0 o4 o5 ?_
   refine xL ?_
   exact (by refine' ⟨true, n, s, t, 1, 0, ?_, ?_, ?_, ?_, ?_, kp, ?_, by first | (simp only [ah, au]; omega) | omega, rfl⟩; any_goals (first | exact dD | fail))
  have c7 : (k == 7) = false := by simp only [beq_eq_false_iff_ne]; exact e7
  by_cases e8 : k = 8
  ·subst e8
   refine aY a0 o4 o5 (nQ 8 1) (nQ 8 2) (nQ 8 3) (nQ 8 4) (cJ (nQ 8 5) (cJ (nQ 8 6) (cJ (nQ 8 13) (cJ (nQ 8 9) (cJ (nQ 8 7) (eQ 8)))))) ?_
   refine xL ?_
   refine dS a0 o4 o5 ?_
   refine xL ?_
   exact (by refine' ⟨true, n, s, t, 1, 0, ?_, ?_, ?_, ?_, ?_, kp, ?_, by first | (simp only [ah, au]; omega) | omega, rfl⟩; any_goals (first | exact dD | fail))
  have c8 : (k == 8) = false := by simp only [beq_eq_false_iff_ne]; exact e8
  by_cases e10 : k = 10
  ·subst e10
   refine aY a0 o4 o5 (nQ 10 1) (nQ 10 2) (nQ 10 3) (nQ 10 4) (cJ (nQ 10 5) (cJ (nQ 10 6) (cJ (nQ 10 13) (cJ (nQ 10 9) (cJ (nQ 10 7) (cJ (nQ 10 8) (eQ 10))))))) ?_
   refine xL ?_
   refine dS a0 o4 o5 ?_
   refine aj (aU a0) ?_
   refine C.mono (abN s _ trivial) ?_
   rintro _ σ1 ⟨rfl, k1⟩
   have g1 := (k1.get σ.next (Nat.lt_succ_self _)).trans aA
   have n1 := k1.next
   rw [ah] at n1
   have K1 : ∀ B, Kp σ (σ1.set σ.next B) := fun B => (kp.trans k1).set (Nat.le_refl _) B
   refine dV a0 g1 o4 o5 ?_
   refine xL ?_
   exact (by refine' ⟨wJ s, n, eB, t, 2, 0, ?_, ?_, ?_, ?_, ?_, K1 _, (bF), by first | (simp only [ah, au]; omega) | omega, rfl⟩; any_goals (first | exact dD | fail))
  have c10 : (k == 10) = false := by simp only [beq_eq_false_iff_ne]; exact e10
  by_cases e11 : k = 11
  ·subst e11
   refine aY a0 o4 o5 (nQ 11 1) (nQ 11 2) (nQ 11 3) (nQ 11 4) (cJ (nQ 11 5) (cJ (nQ 11 6) (cJ (nQ 11 13) (cJ (nQ 11 9) (cJ (nQ 11 7) (cJ (nQ 11 8) (cJ (nQ 11 10) (eQ 11)))))))) ?_
   refine xL ?_
   refine dS a0 o4 o5 ?_
   refine xL ?_
   exact (by refine' ⟨true, n, s, t, 3, 0, ?_, ?_, ?_, ?_, ?_, kp, ?_, by first | (simp only [ah, au]; omega) | omega, rfl⟩; any_goals (first | exact dD | fail))
  have c11 : (k == 11) = false := by simp only [beq_eq_false_iff_ne]; exact e11
  by_cases e12 : k = 12
  ·subst e12
   refine aY a0 o4 o5 (nQ 12 1) (nQ 12 2) (nQ 12 3) (nQ 12 4) (cJ (nQ 12 5) (cJ (nQ 12 6) (cJ (nQ 12 13) (cJ (nQ 12 9) (cJ (nQ 12 7) (cJ (nQ 12 8) (cJ (nQ 12 10) (cJ (nQ 12 11) (eQ 12))))))))) ?_
   refine xL ?_
   refine dS a0 o4 o5 ?_
   refine xL ?_
   exact (by refine' ⟨true, n, s, t, 0, 1, ?_, ?_, ?_, ?_, ?_, kp, ?_, by first | (simp only [ah, au]; omega) | omega, rfl⟩; any_goals (first | exact dD | fail))
  have c12 : (k == 12) = false := by simp only [beq_eq_false_iff_ne]; exact e12
  by_cases e14 : k = 14
  ·subst e14
   refine aY a0 o4 o5 (nQ 14 1) (nQ 14 2) (nQ 14 3) (nQ 14 4) (cJ (nQ 14 5) (cJ (nQ 14 6) (cJ (nQ 14 13) (cJ (nQ 14 9) (cJ (nQ 14 7) (cJ (nQ 14 8) (cJ (nQ 14 10) (cJ (nQ 14 11) (cJ (nQ 14 12) (eQ 14)))))))))) ?_
   refine xL ?_
   refine dS a0 o4 o5 ?_
   refine xL ?_
   exact (by refine' ⟨true, n, s, t, 0, 1, ?_, ?_, ?_, ?_, ?_, kp, ?_, by first | (simp only [ah, au]; omega) | omega, rfl⟩; any_goals (first | exact dD | fail))
  have c14 : (k == 14) = false := by simp only [beq_eq_false_iff_ne]; exact e14
  by_cases e15 : k = 15
  ·subst e15
   refine aY a0 o4 o5 (nQ 15 1) (nQ 15 2) (nQ 15 3) (nQ 15 4) (cJ (nQ 15 5) (cJ (nQ 15 6) (cJ (nQ 15 13) (cJ (nQ 15 9) (cJ (nQ 15 7) (cJ (nQ 15 8) (cJ (nQ 15 10) (cJ (nQ 15 11) (cJ (nQ 15 12) (cJ (nQ 15 14) (eQ 15))))))))))) ?_
   refine xL ?_
   refine dS a0 o4 o5 ?_
   refine aj (aU a0) ?_
   refine C.mono (WC (bW.kp (yI rk rq) kp)) ?_
   rintro _ σ0 ⟨rfl, k0⟩
   have g0 := (k0.get σ.next (Nat.lt_succ_self _)).trans aA
   have n0 := k0.next
   rw [ah] at n0
   refine dV a0 g0 o4 o5 ?_
   refine aj (aU a0) ?_
   refine C.mono (abO s _ trivial) ?_
   rintro _ σ1 ⟨rfl, k1⟩
   have g1 := (k1.get σ.next (by omega)).trans g0
   have n1 := k1.next
   have K1 : ∀ B, Kp σ (σ1.set σ.next B) := fun B => ((kp.trans k0).trans k1).set (Nat.le_refl _) B
   refine dV a0 g1 o4 o5 ?_
   refine xL ?_
   exact (by refine' ⟨MF s, n, eB, t, Ce s kids, 0, ?_, ?_, ?_, ?_, ?_, K1 _, (bF), by first | (simp only [ah, au]; omega) | omega, rfl⟩; any_goals (first | exact dD | fail))
  have c15 : (k == 15) = false := by simp only [beq_eq_false_iff_ne]; exact e15
  refine aY a0 o4 o5 c1 c2 c3 c4 (cJ c5 (cJ c6 (cJ c13 (cJ c9 (cJ c7 (cJ c8 (cJ c10 (cJ c11 (cJ c12 (cJ c14 c15)))))))))) ?_
  refine xL ?_
  refine iO ?_
  refine xL ?_
  exact (by refine' ⟨false, n, s, t, 0, 0, ?_, ?_, ?_, ?_, ?_, kp, ?_, by first | (simp only [ah, au]; omega) | omega, by simp [FI, jL, e1, e2, e3, e4, e5, e6, e13, e9, e7, e8, e10, e11, e12, e14, e15]⟩; any_goals (first | exact dD | fail))
 ·rintro B σ1 ⟨ok, n', s', t', nk, nq, hz, b1, b3, b4, b5, K0, g0, hn, heq⟩
  rw [heq]
  cases ok with
  | false =>
   refine dV b1 b3 b4 b5 ?_
   refine dG ?_
   exact ⟨by simp [jL], K0⟩
  | true =>
   cases c1 : (n' == 0) with
   | false =>
    refine aY b1 b3 b4 b5 g0 o4 o5 (cJ l1 (cJ l2 c1)) ?_
    refine rT4 b1 b3 b4 b5 ?_
    exact ⟨by simp [jL, c1], K0⟩
   | true =>
    cases c2 : (decide (s' = (⟨#[]⟩ : ByteArray))) with
    | false =>
     have d2 : decide (s' = eB) = false := c2
     refine aY b1 b3 b4 b5 g0 o4 o5 (cJ l1 (cJ l2 (cJ c1 c2))) ?_
     refine rT4 b1 b3 b4 b5 ?_
     exact ⟨by simp [jL, c1, d2], K0⟩
    | true =>
     have d2 : decide (s' = eB) = true := c2
     cases c3 : (decide (t' = (⟨#[]⟩ : ByteArray))) with
     | false =>
      have d3 : decide (t' = eB) = false := c3
      refine aY b1 b3 b4 b5 g0 o4 o5 (cJ l1 (cJ l2 (cJ c1 (cJ c2 c3)))) ?_
      refine rT4 b1 b3 b4 b5 ?_
      exact ⟨by simp [jL, c1, d2, d3], K0⟩
     | true =>
      have d3 : decide (t' = eB) = true := c3
      cases c4 : ((kids.length : Int) == (nk : Int)) with
      | false =>
       have d4 : (kids.length == nk) = false := by rw [← c4]; exact dK _ _
       refine aY b1 b3 b4 b5 g0 o4 o5 (cJ l1 (cJ l2 (cJ c1 (cJ c2 (cJ c3 c4))))) ?_
       refine rT4 b1 b3 b4 b5 ?_
       exact ⟨by simp [jL, c1, d2, d3, d4], K0⟩
      | true =>
       have d4 : (kids.length == nk) = true := by rw [← c4]; exact dK _ _
       cases c5 : ((qs.length : Int) == (nq : Int)) with
       | false =>
        have d5 : (qs.length == nq) = false := by rw [← c5]; exact dK _ _
        refine aY b1 b3 b4 b5 g0 o4 o5 (cJ l1 (cJ l2 (cJ c1 (cJ c2 (cJ c3 (cJ c4 c5)))))) ?_
        refine rT4 b1 b3 b4 b5 ?_
        exact ⟨by simp [jL, c1, d2, d3, d4, d5], K0⟩
       | true =>
        have d5 : (qs.length == nq) = true := by rw [← c5]; exact dK _ _
        refine aY b1 b3 b4 b5 g0 o4 o5 (cJ l1 (cJ l2 (cJ c1 (cJ c2 (cJ c3 (cJ c4 c5)))))) ?_
        refine aj (qx b1 b3 b4 b5) ?_
        have hkl2 : kids.length ≤ 1000 := hkl.1
        have ajS : qs.length ≤ 1000 := Zy.1
        have hz1 : ∀ l ∈ [kids], l.length ≤ 4611686018427387904 := fun l hl => by rw [List.mem_singleton.1 hl]; omega
        have hz2 : ∀ l ∈ [kids], ∀ p ∈ l, ShT 6 p := fun l hl p hp => by rw [List.mem_singleton.1 hl] at hp; exact tN (hkl.2 p hp)
        have hz3 : ∀ l ∈ [kids], ∀ p ∈ l, ∀ x, bV (bW p x) 21 [x] ((eP T m).e p) := fun l hl p hp x => by rw [List.mem_singleton.1 hl] at hp; exact hE p (hkl.2 p hp) x
        have hz4 : bW (sl 1 ([kids].map (sl 6))) (.slice (some ⟨σ1.next, 0, none⟩) 1 2) (σ1.push ⟨1, 39, 1, [(.slice ak kids.length ck)]⟩) := vg (vs := [(.slice ak kids.length ck)]) aA (by decide) (Nat.lt_succ_self _) ⟨_, _, rfl, bW.kp (bW.kp rk K0) ((Kp.refl _).push _), rfl⟩ (fun v hv => by rw [List.mem_singleton.1 hv]; exact Zw rk)
        have K0 : ∀ B, Kp σ (σ1.push B) := fun B => K0.push B
        refine C.mono (oC (ls := [kids]) (R := (eP T m).e) (show 1 ≤ 1000000 by decide) hz1 hz2 hz3 _ hz4) ?_
        rintro _ σ6 ⟨rfl, k6⟩
        have n6 := k6.next
        (try simp only [ah, au] at n6)
        have K6 := Kp.trans (K0 _) k6
        have g6 := (k6.get σ.next (by first | omega | (simp only [ah]; omega))).trans ((aC (by omega)).trans g0)
        cases c6 : ([kids].all fun l => l.all (eP T m).e) with
        | false =>
         have d6 : kids.all (eP T m).e = false := by simpa using c6
         refine aY b1 b3 b4 b5 g6 o4 o5 (cJ l1 (cJ l2 (cJ c1 (cJ c2 (cJ c3 (cJ c4 (cJ c5 c6))))))) ?_
         refine rT4 b1 b3 b4 b5 ?_
         exact ⟨by simp [jL, c1, d2, d3, d4, d5, d6], K6⟩
        | true =>
         have d6 : kids.all (eP T m).e = true := by simpa using c6
         refine aY b1 b3 b4 b5 g6 o4 o5 (cJ l1 (cJ l2 (cJ c1 (cJ c2 (cJ c3 (cJ c4 (cJ c5 c6))))))) ?_
         refine aj (qx b1 b3 b4 b5) ?_
         refine C.mono (ql (R := (eP T m).q) (fs := []) (cs := []) (by omega) (fun p hp => kL (Zy.2 p hp)) (fun p hp x => hQ p (Zy.2 p hp) x) _ (bW.kp rq K6)) ?_
         rintro _ σ7 ⟨rfl, k7⟩
         have n7 := k7.next
         (try simp only [ah, au] at n7)
         have K7 := Kp.trans K6 k7
         have g7 := (k7.get σ.next (by first | omega | (simp only [ah]; omega))).trans g6
         refine aY b1 b3 b4 b5 g7 o4 o5 (cJ l1 (cJ l2 (cJ c1 (cJ c2 (cJ c3 (cJ c4 (cJ c5 c6))))))) ?_
         refine rT4 b1 b3 b4 b5 ?_
         exact ⟨by simp [jL, c1, d2, d3, d4, d5, d6], K7⟩
end Go.Proofs.YthogkmcahnkkoaaGreatDoor
