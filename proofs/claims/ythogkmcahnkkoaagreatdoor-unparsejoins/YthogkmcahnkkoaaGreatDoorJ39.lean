/- What the weights of expressions and of what queries are from say. -/
import Derived.Test.YthogkmcahnkkoaaGreatDoorJ38
namespace Go.Proofs.YthogkmcahnkkoaaGreatDoor
open Go.RowKit
set_option maxRecDepth 10000
set_option linter.unusedSimpArgs false
set_option linter.unusedVariables false
set_option maxHeartbeats 4000000
theorem O1 {f : Nat} (hE : WE f) (hQ : WQ f) : WE (f + 1) := by
 intro n p hp d hd0 hd2 hdf x σ hx
 cases n with
 | zero => exact hp.elim
 | succ n =>
 obtain ⟨k, m, s, t, kids, qs, rfl, hk, hm, hs, ht, su, abY⟩ := hp
 obtain ⟨v1, v2, rfl, r1, r2⟩ := qL hx
 obtain ⟨y1, jA, rfl⟩ := aG r1
 obtain ⟨y2, jc, rfl⟩ := aG r2
 have Xt : kids.length ≤ 9223372036854775807 := Nat.le_trans su.1 dZ
 have agQ : qs.length ≤ 9223372036854775807 := Nat.le_trans abY.1 dZ
 have AQ : ∀ p ∈ kids, ShT 6 p := fun p hp => tN (su.2 p hp)
 have Xu : ∀ p ∈ qs, ShT 10 p := fun p hp => kL (abY.2 p hp)
 have K0 : Kp σ (σ.push ⟨1, 42, 0, [.int .i64 k, .int .i64 m, .string s, .string t, .slice y1 kids.length jA, .slice y2 qs.length jc]⟩) := (Kp.refl σ).push _
 unfold Wgh
 refine fG Tryz.func36 Tryz.ntmps36 Tryz.results36 fun A hz a0 a1 => ?_
 by_cases h60 : 60 < d
 ·have c1 : decide ((60 : Int) < d) = true := decide_eq_true h60
  refine dS a0 a1 c1 ?_
  refine dG ?_
  exact ⟨⟨1000, rfl, by decide, by decide, fun h => absurd h (by decide)⟩, K0⟩
 have c1 : decide ((60 : Int) < d) = false := decide_eq_false h60
 by_cases hss : 1200 < s.size
 ·have c2 : decide ((1200 : Int) < (s.size : Int)) = true := by simp only [decide_eq_true_eq]; omega
  refine dV a0 a1 c1 c2 ?_
  refine dG ?_
  exact ⟨⟨1000, rfl, by decide, by decide, fun h => absurd h (by decide)⟩, K0⟩
 have c2 : decide ((1200 : Int) < (s.size : Int)) = false := by simp only [decide_eq_false_iff_not]; omega
 by_cases hts : 1200 < t.size
 ·have c3 : decide ((1200 : Int) < (t.size : Int)) = true := by simp only [decide_eq_true_eq]; omega
  refine jy a0 a1 c1 c2 c3 ?_
  refine dG ?_
  exact ⟨⟨1000, rfl, by decide, by decide, fun h => absurd h (by decide)⟩, K0⟩
 have c3 : decide ((1200 : Int) < (t.size : Int)) = false := by simp only [decide_eq_false_iff_not]; omega
 have hd1 : aT .add (.int .i64 d) (.int .i64 1) = some (.int .i64 (d + 1)) := aH (by omega) (by omega)
 have g0 : (σ.push ⟨1, 42, 0, [.int .i64 k, .int .i64 m, .string s, .string t, .slice y1 kids.length jA, .slice y2 qs.length jc]⟩).get σ.next = ⟨1, 42, 0, [.int .i64 k, .int .i64 m, .string s, .string t, .slice y1 kids.length jA, .slice y2 qs.length jc]⟩ := aA
 have n0 : σ.next < (σ.push ⟨1, 42, 0, [.int .i64 k, .int .i64 m, .string s, .string t, .slice y1 kids.length jA, .slice y2 qs.length jc]⟩).next := Nat.lt_succ_self _
 refine gC5 a0 a1 c1 c2 c3 ?_
 refine uz (fun B σ1 => ∃ M : Int, B.size = 66 ∧ B.get 2 = some (.pointer (some ⟨σ.next, 0, none⟩)) ∧ B.get 1 = some (.int .i64 d) ∧ B.get 5 = some (.int .i64 M) ∧ Kp σ σ1 ∧ σ1.get (σ.next) = ⟨1, 42, 0, [.int .i64 k, .int .i64 m, .string s, .string t, .slice y1 kids.length jA, .slice y2 qs.length jc]⟩ ∧ σ.next < σ1.next ∧ 1 ≤ M ∧ M ≤ 100000 ∧ (M < 1000 → (True) ∧ LL b0 ((bT b0 f).e) kids)) ?_ ?_
 ·apply b_k
  refine dB (dI (fun mz B σ1 => ∃ (j : Nat) (M : Int), j ≤ kids.length ∧ mz = kids.length - j ∧ B.size = 66 ∧ B.get 2 = some (.pointer (some ⟨σ.next, 0, none⟩)) ∧ B.get 1 = some (.int .i64 d) ∧ B.get 5 = some (.int .i64 M) ∧ B.get 6 = some (.int .i64 (j : Int)) ∧ Kp σ σ1 ∧ σ1.get (σ.next) = ⟨1, 42, 0, [.int .i64 k, .int .i64 m, .string s, .string t, .slice y1 kids.length jA, .slice y2 qs.length jc]⟩ ∧ σ.next < σ1.next ∧ (j : Int) + 1 ≤ M ∧ M ≤ 100000 ∧ (M < 1000 → (True) ∧ ∀ p ∈ kids.take j, ((bT b0 f).e) p)) ?_ (m := kids.length) (by refine' ⟨0, 1, Nat.zero_le _, rfl, ?_, ?_, ?_, ?_, ?_, K0, g0, n0, by have := (show (1 : Int) ≤ 1 by decide); omega, by decide, fun h => ⟨(fun (_ : (1 : Int) < 1000) => True.intro) h, by simp⟩⟩; any_goals (first | exact NY a0 a1 c1 c2 c3 | fail)))
  rintro mz B τ ⟨j, M, hj, rfl, hz, b2, b1, bm, bc, k1, g1, sG, hM0, hM1, hM2⟩
  have hl1 : ∀ τ, fF Tryz.prog τ 39 (.slice y1 kids.length jA) = some (.int .i64 kids.length) := fun τ => Df τ _ _ _
  by_cases hjl : j < kids.length
  ·have c1 : decide ((j : Int) < (kids.length : Int)) = true := by simp [hjl]
   by_cases nO : M < 1000
   ·have c2 : decide (M < 1000) = true := decide_eq_true nO
    obtain ⟨bb, o, qq, c, cs, lv, e, hrow, hel, htk, hx1, hl, ho⟩ := kG (bW.kp r1 k1) oM (j := (j : Int)) rfl hjl (AQ _ (List.getElem_mem _))
    injection e with e1 _ _
    subst e1
    have hr1 := hrow _ (Kp.refl _)
    have hadd : aT .add (.int .i64 (j : Int)) (.int .i64 1) = some (.int .i64 ((j + 1 : Nat) : Int)) := by rw [aH (by omega) (by omega)]; rfl
    refine iC hr1 b2 b1 bm bc g1 c1 c2 (cJ hd1 (cJ hel (cJ htk (cJ hl ho)))) ?_
    refine aj (bP b2 b1) ?_
    refine C.mono (hE n _ (su.2 _ (List.getElem_mem _)) (d + 1) (by omega) (by omega) (by omega) _ _ hx1) ?_
    rintro _ σ2 ⟨⟨w, rfl, hw1, hw2, hw3⟩, k2⟩
    have g2 := (k2.get (σ.next) sG).trans g1
    have n2 := k2.next
    have hadm : aT .add (.int .i64 M) (.int .i64 w) = some (.int .i64 (M + w)) := aH (by omega) (by omega)
    have hall : (M + w < 1000 → (((bT b0 f).e) kids[j])) → (M + w < 1000 → (True) ∧ ∀ p ∈ kids.take (j + 1), ((bT b0 f).e) p) := fun hg h => by
     obtain ⟨hp, ha⟩ := hM2 nO
     refine ⟨hp, fun p hp => ?_⟩
     rw [List.take_add_one, List.getElem?_eq_getElem hjl, List.mem_append] at hp
     rcases hp with hp | hp
     ·exact ha p hp
     ·simp only [Option.toList_some, List.mem_singleton] at hp
      subst hp
      exact hg h
    refine nH b2 b1 bm bc g2 hadm hadd ?_
    exact (by refine' ⟨kids.length - (j + 1), by omega, j + 1, M + w, hjl, rfl, ?_, ?_, ?_, ?_, ?_, k1.trans k2, g2, by omega, by push_cast; omega, by omega, hall fun h => hw3 (by omega)⟩; any_goals (first | exact bP b2 b1 | fail))
   ·have c2 : decide (M < 1000) = false := decide_eq_false nO
    refine aY b2 b1 bm bc g1 c1 c2 hl1 ?_
    refine xL ?_
    exact (by refine' ⟨M, ?_, ?_, ?_, ?_, k1, g1, sG, by omega, hM1, fun h => absurd h nO⟩; any_goals (first | exact lF b2 b1 bm | fail))
  ·have c1 : decide ((j : Int) < (kids.length : Int)) = false := by simp [hjl]
   refine nH b2 b1 bm bc g1 c1 hl1 ?_
   refine xL ?_
   refine ⟨M, (dD), (bP b2 b1), (bP b2 b1), (aU bm), k1, g1, sG, by omega, hM1, fun h => ?_⟩
   obtain ⟨hp, ha⟩ := hM2 h
   rw [List.take_of_length_le (by omega)] at ha
   exact ⟨hp, (by show _ ≤ 1000; omega), ha⟩
 rintro B Tz ⟨M1, hz, b2, b1, bm, K1, g1, n1, hA1, hB1, Xr⟩
 refine gC4 b2 b1 bm g1 ?_
 refine uz (fun B σ1 => ∃ M : Int, B.size = 66 ∧ B.get 2 = some (.pointer (some ⟨σ.next, 0, none⟩)) ∧ B.get 1 = some (.int .i64 d) ∧ B.get 5 = some (.int .i64 M) ∧ Kp σ σ1 ∧ σ1.get (σ.next) = ⟨1, 42, 0, [.int .i64 k, .int .i64 m, .string s, .string t, .slice y1 kids.length jA, .slice y2 qs.length jc]⟩ ∧ σ.next < σ1.next ∧ 1 ≤ M ∧ M ≤ 100000 ∧ (M < 1000 → ((True) ∧ LL b0 ((bT b0 f).e) kids) ∧ LL b0 ((bT b0 f).q) qs)) ?_ ?_
 ·apply b_k
  refine dB (dI (fun mz B σ1 => ∃ (j : Nat) (M : Int), j ≤ qs.length ∧ mz = qs.length - j ∧ B.size = 66 ∧ B.get 2 = some (.pointer (some ⟨σ.next, 0, none⟩)) ∧ B.get 1 = some (.int .i64 d) ∧ B.get 5 = some (.int .i64 M) ∧ B.get 7 = some (.int .i64 (j : Int)) ∧ Kp σ σ1 ∧ σ1.get (σ.next) = ⟨1, 42, 0, [.int .i64 k, .int .i64 m, .string s, .string t, .slice y1 kids.length jA, .slice y2 qs.length jc]⟩ ∧ σ.next < σ1.next ∧ (j : Int) + 1 ≤ M ∧ M ≤ 100000 ∧ (M < 1000 → ((True) ∧ LL b0 ((bT b0 f).e) kids) ∧ ∀ p ∈ qs.take j, ((bT b0 f).q) p)) ?_ (m := qs.length) (by refine' ⟨0, M1, Nat.zero_le _, rfl, ?_, ?_, ?_, ?_, ?_, K1, g1, n1, by have := hA1; omega, hB1, fun h => ⟨Xr h, by simp⟩⟩; any_goals (first | exact qx b2 b1 bm g1 | fail)))
  rintro mz B τ ⟨j, M, hj, rfl, hz, b2, b1, bm, bc, k1, g1, sG, hM0, hM1, hM2⟩
  have hl1 : ∀ τ, fF Tryz.prog τ 40 (.slice y2 qs.length jc) = some (.int .i64 qs.length) := fun τ => He τ _ _ _
  by_cases hjl : j < qs.length
  ·have c1 : decide ((j : Int) < (qs.length : Int)) = true := by simp [hjl]
   by_cases nO : M < 1000
   ·have c2 : decide (M < 1000) = true := decide_eq_true nO
    obtain ⟨bb, o, qq, c, cs, lv, e, hrow, hel, htk, hx1, hl, ho⟩ := kG (bW.kp r2 k1) rE (j := (j : Int)) rfl hjl (Xu _ (List.getElem_mem _))
    injection e with e1 _ _
    subst e1
    have hr1 := hrow _ (Kp.refl _)
    have hadd : aT .add (.int .i64 (j : Int)) (.int .i64 1) = some (.int .i64 ((j + 1 : Nat) : Int)) := by rw [aH (by omega) (by omega)]; rfl
    refine iC hr1 b2 b1 bm bc g1 c1 c2 (cJ hd1 (cJ hel (cJ htk (cJ hl ho)))) ?_
    refine aj (bP b2 b1) ?_
    refine C.mono (hQ n _ (abY.2 _ (List.getElem_mem _)) (d + 1) (by omega) (by omega) (by omega) _ _ hx1) ?_
    rintro _ σ2 ⟨⟨w, rfl, hw1, hw2, hw3⟩, k2⟩
    have g2 := (k2.get (σ.next) sG).trans g1
    have n2 := k2.next
    have hadm : aT .add (.int .i64 M) (.int .i64 w) = some (.int .i64 (M + w)) := aH (by omega) (by omega)
    have hall : (M + w < 1000 → (((bT b0 f).q) qs[j])) → (M + w < 1000 → ((True) ∧ LL b0 ((bT b0 f).e) kids) ∧ ∀ p ∈ qs.take (j + 1), ((bT b0 f).q) p) := fun hg h => by
     obtain ⟨hp, ha⟩ := hM2 nO
     refine ⟨hp, fun p hp => ?_⟩
     rw [List.take_add_one, List.getElem?_eq_getElem hjl, List.mem_append] at hp
     rcases hp with hp | hp
     ·exact ha p hp
     ·simp only [Option.toList_some, List.mem_singleton] at hp
      subst hp
      exact hg h
    refine nH b2 b1 bm bc g2 hadm hadd ?_
    exact (by refine' ⟨qs.length - (j + 1), by omega, j + 1, M + w, hjl, rfl, ?_, ?_, ?_, ?_, ?_, k1.trans k2, g2, by omega, by push_cast; omega, by omega, hall fun h => hw3 (by omega)⟩; any_goals (first | exact bP b2 b1 | fail))
   ·have c2 : decide (M < 1000) = false := decide_eq_false nO
    refine aY b2 b1 bm bc g1 c1 c2 hl1 ?_
    refine xL ?_
    exact (by refine' ⟨M, ?_, ?_, ?_, ?_, k1, g1, sG, by omega, hM1, fun h => absurd h nO⟩; any_goals (first | exact lF b2 b1 bm | fail))
  ·have c1 : decide ((j : Int) < (qs.length : Int)) = false := by simp [hjl]
   refine nH b2 b1 bm bc g1 c1 hl1 ?_
   refine xL ?_
   refine ⟨M, (dD), (bP b2 b1), (bP b2 b1), (aU bm), k1, g1, sG, by omega, hM1, fun h => ?_⟩
   obtain ⟨hp, ha⟩ := hM2 h
   rw [List.take_of_length_le (by omega)] at ha
   exact ⟨hp, (by show _ ≤ 1000; omega), ha⟩
 rintro B aef ⟨M2, hz, b2, b1, bm, K2, g2, n2, hA2, hB2, hC2⟩
 refine dV b2 b1 bm g2 ?_
 refine dG ?_
 refine ⟨⟨_, rfl, by split <;> omega, by split <;> omega, fun h => ?_⟩, K2⟩
 obtain ⟨⟨_, h1⟩, h2⟩ := hC2 (by split at h <;> omega)
 exact ⟨_, _, _, _, _, _, rfl, hk, hm, (by show _ ≤ 1200; omega), (by show _ ≤ 1200; omega), h1, h2⟩
theorem FT {f : Nat} (hE : WE f) (hQ : WQ f) (hF : WF f) : WF (f + 1) := by
 intro n p hp d hd0 hd2 hdf x σ hx
 cases n with
 | zero => exact hp.elim
 | succ n =>
 obtain ⟨k, v, t, a, q, kids, on, rfl, hk, ht, ha, h_q, su, agS⟩ := hp
 obtain ⟨v1, v2, v3, rfl, r1, r2, r3⟩ := FD hx
 obtain ⟨y1, jA, rfl⟩ := aG r1
 obtain ⟨y2, jc, rfl⟩ := aG r2
 obtain ⟨y3, jT, rfl⟩ := aG r3
 have Xt : kids.length ≤ 9223372036854775807 := Nat.le_trans su.1 dZ
 have i_q : q.length ≤ 9223372036854775807 := Nat.le_trans h_q.1 dZ
 have AQ : ∀ p ∈ kids, ShT 7 p := fun p hp => wF (su.2 p hp)
 have agT : ∀ p ∈ q, ShT 10 p := fun p hp => kL (h_q.2 p hp)
 have K0 : Kp σ (σ.push ⟨1, 92, 0, [.int .i64 k, .string t, .bool v, .string a, .slice y1 q.length jA, .slice y2 kids.length jc, .slice y3 on.length jT]⟩) := (Kp.refl σ).push _
 unfold Wgh
 refine fG Tryz.func37 Tryz.ntmps37 Tryz.results37 fun A hz a0 a1 => ?_
 by_cases h60 : 60 < d
 ·have c1 : decide ((60 : Int) < d) = true := decide_eq_true h60
  refine dS a0 a1 c1 ?_
  refine dG ?_
  exact ⟨⟨1000, rfl, by decide, by decide, fun h => absurd h (by decide)⟩, K0⟩
 have c1 : decide ((60 : Int) < d) = false := decide_eq_false h60
 by_cases hss : 1200 < t.size
 ·have c2 : decide ((1200 : Int) < (t.size : Int)) = true := by simp only [decide_eq_true_eq]; omega
  refine dV a0 a1 c1 c2 ?_
  refine dG ?_
  exact ⟨⟨1000, rfl, by decide, by decide, fun h => absurd h (by decide)⟩, K0⟩
 have c2 : decide ((1200 : Int) < (t.size : Int)) = false := by simp only [decide_eq_false_iff_not]; omega
 by_cases hts : 1200 < a.size
 ·have c3 : decide ((1200 : Int) < (a.size : Int)) = true := by simp only [decide_eq_true_eq]; omega
  refine jy a0 a1 c1 c2 c3 ?_
  refine dG ?_
  exact ⟨⟨1000, rfl, by decide, by decide, fun h => absurd h (by decide)⟩, K0⟩
 have c3 : decide ((1200 : Int) < (a.size : Int)) = false := by simp only [decide_eq_false_iff_not]; omega
 have hd1 : aT .add (.int .i64 d) (.int .i64 1) = some (.int .i64 (d + 1)) := aH (by omega) (by omega)
 refine kR a0 a1 c1 c2 c3 hd1 ?_
 refine aj (bP a0 a1) ?_
 refine C.mono (pG hE agS (d := d + 1) (by omega) (by omega) (by omega) (bW.kp r3 K0)) ?_
 rintro _ σ2 ⟨⟨w0, rfl, w1, w2, w3⟩, k2⟩
 have g0 := (k2.get σ.next (Nat.lt_succ_self _)).trans aA
 have n0 : σ.next < σ2.next := by have := k2.next; rw [ah] at this; omega
 replace K0 := K0.trans k2
 have hw0 : aT .add (.int .i64 1) (.int .i64 w0) = some (.int .i64 (1 + w0)) := aH (by omega) (by omega)
 refine gC4 a0 a1 g0 hw0 ?_
 refine uz (fun B σ1 => ∃ M : Int, B.size = 72 ∧ B.get 2 = some (.pointer (some ⟨σ.next, 0, none⟩)) ∧ B.get 1 = some (.int .i64 d) ∧ B.get 5 = some (.int .i64 M) ∧ Kp σ σ1 ∧ σ1.get (σ.next) = ⟨1, 92, 0, [.int .i64 k, .string t, .bool v, .string a, .slice y1 q.length jA, .slice y2 kids.length jc, .slice y3 on.length jT]⟩ ∧ σ.next < σ1.next ∧ 1 ≤ M ∧ M ≤ 100000 ∧ (M < 1000 → (LL b0 ((bT b0 f).e) on) ∧ LL b0 ((bT b0 f).q) q)) ?_ ?_
 ·apply b_k
  refine dB (dI (fun mz B σ1 => ∃ (j : Nat) (M : Int), j ≤ q.length ∧ mz = q.length - j ∧ B.size = 72 ∧ B.get 2 = some (.pointer (some ⟨σ.next, 0, none⟩)) ∧ B.get 1 = some (.int .i64 d) ∧ B.get 5 = some (.int .i64 M) ∧ B.get 6 = some (.int .i64 (j : Int)) ∧ Kp σ σ1 ∧ σ1.get (σ.next) = ⟨1, 92, 0, [.int .i64 k, .string t, .bool v, .string a, .slice y1 q.length jA, .slice y2 kids.length jc, .slice y3 on.length jT]⟩ ∧ σ.next < σ1.next ∧ (j : Int) + 1 ≤ M ∧ M ≤ 100000 ∧ (M < 1000 → (LL b0 ((bT b0 f).e) on) ∧ ∀ p ∈ q.take j, ((bT b0 f).q) p)) ?_ (m := q.length) (by refine' ⟨0, (1 + w0), Nat.zero_le _, rfl, ?_, ?_, ?_, ?_, ?_, K0, g0, n0, by have := (show (1 : Int) ≤ 1 + w0 by omega); omega, by omega, fun h => ⟨(fun (h : 1 + w0 < 1000) => w3 (by omega)) h, by simp⟩⟩; any_goals (first | exact qx a0 a1 g0 hw0 | fail)))
  rintro mz B τ ⟨j, M, hj, rfl, hz, b2, b1, bm, bc, k1, g1, sG, hM0, hM1, hM2⟩
  have hl1 : ∀ τ, fF Tryz.prog τ 40 (.slice y1 q.length jA) = some (.int .i64 q.length) := fun τ => He τ _ _ _
  by_cases hjl : j < q.length
  ·have c1 : decide ((j : Int) < (q.length : Int)) = true := by simp [hjl]
   by_cases nO : M < 1000
   ·have c2 : decide (M < 1000) = true := decide_eq_true nO
    obtain ⟨bb, o, qq, c, cs, lv, e, hrow, hel, htk, hx1, hl, ho⟩ := kG (bW.kp r1 k1) rE (j := (j : Int)) rfl hjl (agT _ (List.getElem_mem _))
    injection e with e1 _ _
    subst e1
    have hr1 := hrow _ (Kp.refl _)
    have hadd : aT .add (.int .i64 (j : Int)) (.int .i64 1) = some (.int .i64 ((j + 1 : Nat) : Int)) := by rw [aH (by omega) (by omega)]; rfl
    refine iC hr1 b2 b1 bm bc g1 c1 c2 (cJ hd1 (cJ hel (cJ htk (cJ hl ho)))) ?_
    refine aj (bP b2 b1) ?_
    refine C.mono (hQ n _ (h_q.2 _ (List.getElem_mem _)) (d + 1) (by omega) (by omega) (by omega) _ _ hx1) ?_
    rintro _ σ2 ⟨⟨w, rfl, hw1, hw2, hw3⟩, k2⟩
    have g2 := (k2.get (σ.next) sG).trans g1
    have n2 := k2.next
    have hadm : aT .add (.int .i64 M) (.int .i64 w) = some (.int .i64 (M + w)) := aH (by omega) (by omega)
    have hall : (M + w < 1000 → (((bT b0 f).q) q[j])) → (M + w < 1000 → (LL b0 ((bT b0 f).e) on) ∧ ∀ p ∈ q.take (j + 1), ((bT b0 f).q) p) := fun hg h => by
     obtain ⟨hp, ha⟩ := hM2 nO
     refine ⟨hp, fun p hp => ?_⟩
     rw [List.take_add_one, List.getElem?_eq_getElem hjl, List.mem_append] at hp
     rcases hp with hp | hp
     ·exact ha p hp
     ·simp only [Option.toList_some, List.mem_singleton] at hp
      subst hp
      exact hg h
    refine nH b2 b1 bm bc g2 hadm hadd ?_
    exact (by refine' ⟨q.length - (j + 1), by omega, j + 1, M + w, hjl, rfl, ?_, ?_, ?_, ?_, ?_, k1.trans k2, g2, by omega, by push_cast; omega, by omega, hall fun h => hw3 (by omega)⟩; any_goals (first | exact bP b2 b1 | fail))
   ·have c2 : decide (M < 1000) = false := decide_eq_false nO
    refine aY b2 b1 bm bc g1 c1 c2 hl1 ?_
    refine xL ?_
    exact (by refine' ⟨M, ?_, ?_, ?_, ?_, k1, g1, sG, by omega, hM1, fun h => absurd h nO⟩; any_goals (first | exact lF b2 b1 bm | fail))
  ·have c1 : decide ((j : Int) < (q.length : Int)) = false := by simp [hjl]
   refine nH b2 b1 bm bc g1 c1 hl1 ?_
   refine xL ?_
   refine ⟨M, (dD), (bP b2 b1), (bP b2 b1), (aU bm), k1, g1, sG, by omega, hM1, fun h => ?_⟩
   obtain ⟨hp, ha⟩ := hM2 h
   rw [List.take_of_length_le (by omega)] at ha
   exact ⟨hp, (by show _ ≤ 1000; omega), ha⟩
 rintro B Tz ⟨M1, hz, b2, b1, bm, K1, g1, n1, hA1, hB1, Xr⟩
 refine gC4 b2 b1 bm g1 ?_
 refine uz (fun B σ1 => ∃ M : Int, B.size = 72 ∧ B.get 2 = some (.pointer (some ⟨σ.next, 0, none⟩)) ∧ B.get 1 = some (.int .i64 d) ∧ B.get 5 = some (.int .i64 M) ∧ Kp σ σ1 ∧ σ1.get (σ.next) = ⟨1, 92, 0, [.int .i64 k, .string t, .bool v, .string a, .slice y1 q.length jA, .slice y2 kids.length jc, .slice y3 on.length jT]⟩ ∧ σ.next < σ1.next ∧ 1 ≤ M ∧ M ≤ 100000 ∧ (M < 1000 → ((LL b0 ((bT b0 f).e) on) ∧ LL b0 ((bT b0 f).q) q) ∧ LL b0 ((bT b0 f).f) kids)) ?_ ?_
 ·apply b_k
  refine dB (dI (fun mz B σ1 => ∃ (j : Nat) (M : Int), j ≤ kids.length ∧ mz = kids.length - j ∧ B.size = 72 ∧ B.get 2 = some (.pointer (some ⟨σ.next, 0, none⟩)) ∧ B.get 1 = some (.int .i64 d) ∧ B.get 5 = some (.int .i64 M) ∧ B.get 7 = some (.int .i64 (j : Int)) ∧ Kp σ σ1 ∧ σ1.get (σ.next) = ⟨1, 92, 0, [.int .i64 k, .string t, .bool v, .string a, .slice y1 q.length jA, .slice y2 kids.length jc, .slice y3 on.length jT]⟩ ∧ σ.next < σ1.next ∧ (j : Int) + 1 ≤ M ∧ M ≤ 100000 ∧ (M < 1000 → ((LL b0 ((bT b0 f).e) on) ∧ LL b0 ((bT b0 f).q) q) ∧ ∀ p ∈ kids.take j, ((bT b0 f).f) p)) ?_ (m := kids.length) (by refine' ⟨0, M1, Nat.zero_le _, rfl, ?_, ?_, ?_, ?_, ?_, K1, g1, n1, by have := hA1; omega, hB1, fun h => ⟨Xr h, by simp⟩⟩; any_goals (first | exact qx b2 b1 bm g1 | fail)))
  rintro mz B τ ⟨j, M, hj, rfl, hz, b2, b1, bm, bc, k1, g1, sG, hM0, hM1, hM2⟩
  have hl1 : ∀ τ, fF Tryz.prog τ 58 (.slice y2 kids.length jc) = some (.int .i64 kids.length) := fun τ => PW τ _ _ _
  by_cases hjl : j < kids.length
  ·have c1 : decide ((j : Int) < (kids.length : Int)) = true := by simp [hjl]
   by_cases nO : M < 1000
   ·have c2 : decide (M < 1000) = true := decide_eq_true nO
    obtain ⟨bb, o, qq, c, cs, lv, e, hrow, hel, htk, hx1, hl, ho⟩ := kG (bW.kp r2 k1) yE (j := (j : Int)) rfl hjl (AQ _ (List.getElem_mem _))
    injection e with e1 _ _
    subst e1
    have hr1 := hrow _ (Kp.refl _)
    have hadd : aT .add (.int .i64 (j : Int)) (.int .i64 1) = some (.int .i64 ((j + 1 : Nat) : Int)) := by rw [aH (by omega) (by omega)]; rfl
    refine iC hr1 b2 b1 bm bc g1 c1 c2 (cJ hd1 (cJ hel (cJ htk (cJ hl ho)))) ?_
    refine aj (bP b2 b1) ?_
    refine C.mono (hF n _ (su.2 _ (List.getElem_mem _)) (d + 1) (by omega) (by omega) (by omega) _ _ hx1) ?_
    rintro _ σ2 ⟨⟨w, rfl, hw1, hw2, hw3⟩, k2⟩
    have g2 := (k2.get (σ.next) sG).trans g1
    have n2 := k2.next
    have hadm : aT .add (.int .i64 M) (.int .i64 w) = some (.int .i64 (M + w)) := aH (by omega) (by omega)
    have hall : (M + w < 1000 → (((bT b0 f).f) kids[j])) → (M + w < 1000 → ((LL b0 ((bT b0 f).e) on) ∧ LL b0 ((bT b0 f).q) q) ∧ ∀ p ∈ kids.take (j + 1), ((bT b0 f).f) p) := fun hg h => by
     obtain ⟨hp, ha⟩ := hM2 nO
     refine ⟨hp, fun p hp => ?_⟩
     rw [List.take_add_one, List.getElem?_eq_getElem hjl, List.mem_append] at hp
     rcases hp with hp | hp
     ·exact ha p hp
     ·simp only [Option.toList_some, List.mem_singleton] at hp
      subst hp
      exact hg h
    refine nH b2 b1 bm bc g2 hadm hadd ?_
    exact (by refine' ⟨kids.length - (j + 1), by omega, j + 1, M + w, hjl, rfl, ?_, ?_, ?_, ?_, ?_, k1.trans k2, g2, by omega, by push_cast; omega, by omega, hall fun h => hw3 (by omega)⟩; any_goals (first | exact bP b2 b1 | fail))
   ·have c2 : decide (M < 1000) = false := decide_eq_false nO
    refine aY b2 b1 bm bc g1 c1 c2 hl1 ?_
    refine xL ?_
    exact (by refine' ⟨M, ?_, ?_, ?_, ?_, k1, g1, sG, by omega, hM1, fun h => absurd h nO⟩; any_goals (first | exact lF b2 b1 bm | fail))
  ·have c1 : decide ((j : Int) < (kids.length : Int)) = false := by simp [hjl]
   refine nH b2 b1 bm bc g1 c1 hl1 ?_
   refine xL ?_
   refine ⟨M, (dD), (bP b2 b1), (bP b2 b1), (aU bm), k1, g1, sG, by omega, hM1, fun h => ?_⟩
   obtain ⟨hp, ha⟩ := hM2 h
   rw [List.take_of_length_le (by omega)] at ha
   exact ⟨hp, (by show _ ≤ 1000; omega), ha⟩
 rintro B aef ⟨M2, hz, b2, b1, bm, K2, g2, n2, hA2, hB2, hC2⟩
 refine dV b2 b1 bm g2 ?_
 refine dG ?_
 refine ⟨⟨_, rfl, by split <;> omega, by split <;> omega, fun h => ?_⟩, K2⟩
 obtain ⟨⟨h0, h1⟩, h2⟩ := hC2 (by split at h <;> omega)
 exact ⟨_, _, _, _, _, _, _, rfl, hk, (by show _ ≤ 1200; omega), (by show _ ≤ 1200; omega), h1, h2, h0⟩
end Go.Proofs.YthogkmcahnkkoaaGreatDoor
