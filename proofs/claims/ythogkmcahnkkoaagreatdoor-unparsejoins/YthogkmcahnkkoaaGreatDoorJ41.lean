/- What the weights of statements say. -/
import Derived.Test.YthogkmcahnkkoaaGreatDoorJ40
namespace Go.Proofs.YthogkmcahnkkoaaGreatDoor
open Go.RowKit
set_option maxRecDepth 10000
set_option linter.unusedSimpArgs false
set_option linter.unusedVariables false
set_option maxHeartbeats 4000000
theorem ab2 {P : Program} {c : Code} {A : Fr} {σ : AW} {Q : Exit → Fr → AW → Prop} (J : Fr → AW → Prop) (h : W P c A σ (Then J Q)) (k : ∀ A1 σ1, J A1 σ1 → Q .normal A1 σ1) : W P c A σ Q :=
 W.mono h (fun e A1 σ1 hq => by
  cases e with
  | normal => exact k A1 σ1 hq
  | _ => exact hq)
def WSt (f : Nat) : Prop := ∀ (n : Nat) (l : List Tr), LL bM (vF bM n) l → ∀ (d : Int), 0 ≤ d → d ≤ 1000 → 61 ≤ d + f → ∀ v σ, bW (sl 9 l) v σ → Wgh 8 [v, .int .i64 d] σ 0 (LL b0 (vF b0 f) l)
theorem JH : WSt 0 := by
 intro n l hL d hd0 hd2 hdf v σ hx
 have c1 : decide ((60 : Int) < d) = true := by simp only [decide_eq_true_eq]; omega
 unfold Wgh
 refine fG Tryz.func8 Tryz.ntmps8 Tryz.results8 fun A hz a0 a1 => ?_
 refine dS a0 a1 c1 ?_
 refine dG ?_
 exact ⟨⟨1000, rfl, by decide, by decide, fun h => absurd h (by decide)⟩, Kp.refl _⟩
theorem DU {f : Nat} (hE : WE f) (hQ : WQ f) (hS : WSt f) : WSt (f + 1) := by
 intro n l hL d hd0 hd2 hdf v σ hx
 obtain ⟨va, vc, rfl⟩ := aG hx
 have hll : l.length ≤ 9223372036854775807 := Nat.le_trans hL.1 dZ
 have ab1 : ∀ p ∈ l, ShT 9 p := fun p hp => JD (hL.2 p hp)
 unfold Wgh
 refine fG Tryz.func8 Tryz.ntmps8 Tryz.results8 fun A hz a0 a1 => ?_
 by_cases h60 : 60 < d
 ·have c1 : decide ((60 : Int) < d) = true := decide_eq_true h60
  refine dS a0 a1 c1 ?_
  refine dG ?_
  exact ⟨⟨1000, rfl, by decide, by decide, fun h => absurd h (by decide)⟩, Kp.refl _⟩
 have c1 : decide ((60 : Int) < d) = false := decide_eq_false h60
 have hl1 : ∀ τ, fF Tryz.prog τ 24 (.slice va l.length vc) = some (.int .i64 l.length) := fun τ => KH τ _ _ _
 have hd1 : aT .add (.int .i64 d) (.int .i64 1) = some (.int .i64 (d + 1)) := aH (by omega) (by omega)
 refine gC3 a0 a1 c1 ?_
 apply b_k
 refine dB (dI (fun mz B ω => ∃ (jo : Nat) (M : Int), jo ≤ l.length ∧ mz = l.length - jo ∧ B.size = 83 ∧ B.get 0 = some (.slice va l.length vc) ∧ B.get 1 = some (.int .i64 d) ∧ B.get 5 = some (.int .i64 M) ∧ B.get 6 = some (.int .i64 (jo : Int)) ∧ Kp σ ω ∧ (jo : Int) ≤ M ∧ M ≤ 100000 ∧ (M < 1000 → ∀ p ∈ l.take jo, vF b0 (f + 1) p)) ?_ (m := l.length) (by refine' ⟨0, 0, Nat.zero_le _, rfl, ?_, ?_, ?_, ?_, ?_, Kp.refl σ, by decide, by decide, fun _ => by simp⟩; any_goals (first | exact bP a0 a1 | fail)))
 rintro mz B ω ⟨jo, M, hj, rfl, hz, b0', b1, bm, bc, k1, hM0, hM1, hM2⟩
 have fin : ∀ (R : Int), 0 ≤ R → R ≤ 1000 → (R < 1000 → LL b0 (vF b0 (f + 1)) l) → (∃ w : Int, (Value.int .i64 R) = .int .i64 w ∧ 0 ≤ w ∧ w ≤ 1000 ∧ (w < 1000 → LL b0 (vF b0 (f + 1)) l)) := fun R h1 h2 h3 => ⟨R, rfl, h1, h2, h3⟩
 by_cases hjl : jo < l.length
 ·have c2 : decide ((jo : Int) < (l.length : Int)) = true := by simp [hjl]
  by_cases nO : M < 1000
  ·have c3 : decide (M < 1000) = true := decide_eq_true nO
   obtain ⟨bb, o, qq, c, cs, lv, e, hrow, hel, htk, hx1, hl, ho⟩ := kG (bW.kp hx k1) PV (j := (jo : Int)) rfl hjl (ab1 _ (List.getElem_mem _))
   injection e with e1 _ _
   subst e1
   have hr1 := hrow _ (Kp.refl _)
   have hadd : aT .add (.int .i64 (jo : Int)) (.int .i64 1) = some (.int .i64 ((jo + 1 : Nat) : Int)) := by rw [aH (by omega) (by omega)]; rfl
   have hp := hL.2 _ (List.getElem_mem hjl)
   generalize hpe : l[jo] = pj at hp hx1
   cases n with
   | zero => exact hp.elim
   | succ n =>
   obtain ⟨k', at', t', names, es, qs, wh, body, other, rfl, hk, ha, ht, hnm, hes, yK, hwh, ZC, hot⟩ := hp
   obtain ⟨v1, v2, v3, v4, v5, v6, elv, r1, r2, r3, r4, r5, r6⟩ := sJ hx1
   obtain ⟨y1, jA, rfl⟩ := aG r1
   obtain ⟨y2, jc, rfl⟩ := aG r2
   obtain ⟨y3, jT, rfl⟩ := aG r3
   obtain ⟨y4, mF, rfl⟩ := aG r4
   obtain ⟨y5, mX, rfl⟩ := aG r5
   obtain ⟨y6, ng, rfl⟩ := aG r6
   have O4 : lv = [.int .i64 k', .int .i64 at', .string t', .slice y1 names.length jA, .slice y2 es.length jc, .slice y3 qs.length jT, .slice y4 wh.length mF, .slice y5 body.length mX, .slice y6 other.length ng] := by injection elv with h1; injection h1
   subst O4
   have hnn : ∀ p ∈ names, ∃ s, p = .string s := fun p hp => (hnm.2 p hp).imp fun _ h => h.1
   have ZF : names.length ≤ 9223372036854775807 := Nat.le_trans hnm.1 dZ
   have agQ : qs.length ≤ 9223372036854775807 := Nat.le_trans yK.1 dZ
   have Xu : ∀ p ∈ qs, ShT 10 p := fun p hp => kL (yK.2 p hp)
   refine iC hr1 b0' b1 bm bc c2 c3 hel (cJ htk (cJ hl ho)) ?_
   obtain ⟨τ, hτ, kt, gP, nP⟩ : ∃ τ, τ = ((ω.push ⟨1, 54, 0, [.int .i64 0, .int .i64 0, .string ⟨#[]⟩, .slice none 0 0, .slice none 0 0, .slice none 0 0, .slice none 0 0, .slice none 0 0, .slice none 0 0]⟩).set ω.next ⟨1, 54, 0, [.int .i64 k', .int .i64 at', .string t', .slice y1 names.length jA, .slice y2 es.length jc, .slice y3 qs.length jT, .slice y4 wh.length mF, .slice y5 body.length mX, .slice y6 other.length ng]⟩) ∧ Kp ω τ ∧ τ.get ω.next = ⟨1, 54, 0, [.int .i64 k', .int .i64 at', .string t', .slice y1 names.length jA, .slice y2 es.length jc, .slice y3 qs.length jT, .slice y4 wh.length mF, .slice y5 body.length mX, .slice y6 other.length ng]⟩ ∧ τ.next = ω.next + 1 := ⟨_, rfl, ((Kp.refl ω).push _).set (Nat.le_refl _) _, bF, rfl⟩
   rw [← hτ]
   clear hτ
   have hm1 : aT .add (.int .i64 M) (.int .i64 1) = some (.int .i64 (M + 1)) := aH (by omega) (by omega)
   have pP : ∀ C, (τ.push C).get ω.next = ⟨1, 54, 0, [.int .i64 k', .int .i64 at', .string t', .slice y1 names.length jA, .slice y2 es.length jc, .slice y3 qs.length jT, .slice y4 wh.length mF, .slice y5 body.length mX, .slice y6 other.length ng]⟩ := fun C => (aC (by omega)).trans gP
   refine bY mixed (by kernel_rfl) (by kernel_rfl) ?_
   refine gT6 b0' b1 bm bc gP hm1 ?_
   refine bD (dD) ?_
   refine C.mono (uD (σ := τ) t') ?_
   rintro _ τ1 ⟨⟨w1, rfl, w1a, w1b, w1c⟩, k2⟩
   have q1 := ((Kp.refl τ).push _).trans k2
   have g1 := (q1.get ω.next (by omega)).trans gP
   have sG := q1.next
   have hs1 : aT .add (.int .i64 (M + 1)) (.int .i64 w1) = some (.int .i64 (M + 1 + w1)) := aH (by omega) (by omega)
   refine YE b0' b1 bm bc g1 hd1 hs1 ?_
   refine bD (aU b1) ?_
   refine C.mono (JG hnn ZF (bW.kp r1 (kt.trans q1))) ?_
   rintro _ τ2 ⟨⟨w2, rfl, w2a, w2b, w2c⟩, q2⟩
   have g2 := (q2.get ω.next (by omega)).trans g1
   have nn2 := q2.next
   have hs2 : aT .add (.int .i64 (M + 1 + w1)) (.int .i64 w2) = some (.int .i64 (M + 1 + w1 + w2)) := aH (by omega) (by omega)
   refine YE b0' b1 bm bc g2 hd1 hs2 ?_
   refine bD (aU b1) ?_
   refine C.mono (pG hE hes (d := d + 1) (by omega) (by omega) (by omega) (bW.kp r2 ((kt.trans q1).trans q2))) ?_
   rintro _ τ3 ⟨⟨w3, rfl, w3a, w3b, w3c⟩, q3⟩
   have g3 := (q3.get ω.next (by omega)).trans g2
   have nn3 := q3.next
   have hs3 : aT .add (.int .i64 (M + 1 + w1 + w2)) (.int .i64 w3) = some (.int .i64 (M + 1 + w1 + w2 + w3)) := aH (by omega) (by omega)
   refine YE b0' b1 bm bc g3 hd1 hs3 ?_
   refine bD (aU b1) ?_
   refine C.mono (pG hE hwh (d := d + 1) (by omega) (by omega) (by omega) (bW.kp r4 (((kt.trans q1).trans q2).trans q3))) ?_
   rintro _ τ4 ⟨⟨w4, rfl, w4a, w4b, w4c⟩, q4⟩
   have g4 := (q4.get ω.next (by omega)).trans g3
   have nn4 := q4.next
   have hs4 : aT .add (.int .i64 (M + 1 + w1 + w2 + w3)) (.int .i64 w4) = some (.int .i64 (M + 1 + w1 + w2 + w3 + w4)) := aH (by omega) (by omega)
   refine YE b0' b1 bm bc g4 hd1 hs4 ?_
   refine bD (aU b1) ?_
   refine C.mono (hS n _ ZC (d + 1) (by omega) (by omega) (by omega) _ _ (bW.kp r5 ((((kt.trans q1).trans q2).trans q3).trans q4))) ?_
   rintro _ τ5 ⟨⟨w5, rfl, w5a, w5b, w5c⟩, q5⟩
   have g5 := (q5.get ω.next (by omega)).trans g4
   have nn5 := q5.next
   have hs5 : aT .add (.int .i64 (M + 1 + w1 + w2 + w3 + w4)) (.int .i64 w5) = some (.int .i64 (M + 1 + w1 + w2 + w3 + w4 + w5)) := aH (by omega) (by omega)
   refine YE b0' b1 bm bc g5 hd1 hs5 ?_
   refine bD (aU b1) ?_
   refine C.mono (hS n _ hot (d + 1) (by omega) (by omega) (by omega) _ _ (bW.kp r6 (((((kt.trans q1).trans q2).trans q3).trans q4).trans q5))) ?_
   rintro _ τ6 ⟨⟨w6, rfl, w6a, w6b, w6c⟩, q6⟩
   have g6 := (q6.get ω.next (by omega)).trans g5
   have nn6 := q6.next
   have hs6 : aT .add (.int .i64 (M + 1 + w1 + w2 + w3 + w4 + w5)) (.int .i64 w6) = some (.int .i64 (M + 1 + w1 + w2 + w3 + w4 + w5 + w6)) := aH (by omega) (by omega)
   obtain ⟨S, hSd⟩ : ∃ S : Int, S = M + 1 + w1 + w2 + w3 + w4 + w5 + w6 := ⟨_, rfl⟩
   rw [← hSd] at hs6
   refine YE b0' b1 bm bc g6 hd1 hs6 ?_
   refine oW [(3, 0), (8, 0), (8, 5), (8, 6), (12, 0), (12, 5), (12, 6), (12, 10), (18, 0), (18, 5), (18, 6), (18, 10), (18, 16), (24, 0), (24, 5), (24, 6), (24, 10), (24, 16), (24, 22), (30, 0), (30, 5), (30, 6), (30, 10), (30, 16), (30, 22), (30, 28)] ?_ ?_
   ·(repeat (refine aO (bg rfl rfl rfl rfl rfl (kC b0' b1 bm bc gP pP g1 (cJ g2 (cJ g3 (cJ g4 (cJ g5 g6)))))) ?_)); exact bn
   clear htk hl ho hx1 elv
   have K0 := k1.trans ((((((kt.trans q1).trans q2).trans q3).trans q4).trans q5).trans q6)
   have n0 : ω.next < τ6.next := by omega
   replace r3 : bW (sl 10 qs) (.slice y3 qs.length jT) τ6 := bW.kp r3 ((((((kt.trans q1).trans q2).trans q3).trans q4).trans q5).trans q6)
   refine gC6 b0' b1 bm bc g6 hs6 ?_
   refine ab2 (fun B σ1 => ∃ M : Int, B.size = 83 ∧ B.get 0 = some (.slice (some ⟨bb, o, none⟩) l.length vc) ∧ B.get 1 = some (.int .i64 d) ∧ B.get 6 = some (.int .i64 (jo : Int)) ∧ B.get 7 = some (.pointer (some ⟨ω.next, 0, none⟩)) ∧ B.get 5 = some (.int .i64 M) ∧ Kp τ6 σ1 ∧ σ1.get (ω.next) = ⟨1, 54, 0, [.int .i64 k', .int .i64 at', .string t', .slice y1 names.length jA, .slice y2 es.length jc, .slice y3 qs.length jT, .slice y4 wh.length mF, .slice y5 body.length mX, .slice y6 other.length ng]⟩ ∧ ω.next < σ1.next ∧ ((jo : Int) + 1) ≤ M ∧ M ≤ 100000 ∧ (M < 1000 → (SS b0 t' ∧ LL b0 (KN b0) names ∧ LL b0 ((bT b0 f).e) es ∧ LL b0 ((bT b0 f).e) wh ∧ LL b0 (vF b0 f) body ∧ LL b0 (vF b0 f) other) ∧ LL b0 ((bT b0 f).q) qs)) ?_ ?_
   ·apply b_k
    refine dB (dI (fun mz B σ1 => ∃ (j : Nat) (M : Int), j ≤ qs.length ∧ mz = qs.length - j ∧ B.size = 83 ∧ B.get 0 = some (.slice (some ⟨bb, o, none⟩) l.length vc) ∧ B.get 1 = some (.int .i64 d) ∧ B.get 6 = some (.int .i64 (jo : Int)) ∧ B.get 7 = some (.pointer (some ⟨ω.next, 0, none⟩)) ∧ B.get 5 = some (.int .i64 M) ∧ B.get 8 = some (.int .i64 (j : Int)) ∧ Kp τ6 σ1 ∧ σ1.get (ω.next) = ⟨1, 54, 0, [.int .i64 k', .int .i64 at', .string t', .slice y1 names.length jA, .slice y2 es.length jc, .slice y3 qs.length jT, .slice y4 wh.length mF, .slice y5 body.length mX, .slice y6 other.length ng]⟩ ∧ ω.next < σ1.next ∧ (j : Int) + ((jo : Int) + 1) ≤ M ∧ M ≤ 100000 ∧ (M < 1000 → (SS b0 t' ∧ LL b0 (KN b0) names ∧ LL b0 ((bT b0 f).e) es ∧ LL b0 ((bT b0 f).e) wh ∧ LL b0 (vF b0 f) body ∧ LL b0 (vF b0 f) other) ∧ ∀ p ∈ qs.take j, ((bT b0 f).q) p)) ?_ (m := qs.length) (by refine' ⟨0, S, Nat.zero_le _, rfl, ?_, ?_, ?_, ?_, ?_, ?_, ?_, (Kp.refl τ6), g6, n0, by have := (show (jo : Int) + 1 ≤ S by omega); omega, by omega, fun h => ⟨(fun (h : S < 1000) => (⟨w1c (by omega), w2c (by omega), w3c (by omega), w4c (by omega), w5c (by omega), w6c (by omega)⟩ : SS b0 t' ∧ LL b0 (KN b0) names ∧ LL b0 ((bT b0 f).e) es ∧ LL b0 ((bT b0 f).e) wh ∧ LL b0 (vF b0 f) body ∧ LL b0 (vF b0 f) other)) h, by simp⟩⟩; any_goals (first | exact D8 b0' b1 bm bc g6 hs6 | fail)))
    rintro mz B τ ⟨j, M, hj, rfl, hz, b0', b1, TT, b7, bm, bc, k1, g1, sG, hM0, hM1, hM2⟩
    have hl1 : ∀ τ, fF Tryz.prog τ 40 (.slice y3 qs.length jT) = some (.int .i64 qs.length) := fun τ => He τ _ _ _
    by_cases hjl : j < qs.length
    ·have c1 : decide ((j : Int) < (qs.length : Int)) = true := by simp [hjl]
     by_cases nO : M < 1000
     ·have c2 : decide (M < 1000) = true := decide_eq_true nO
      obtain ⟨bb, o, qq, c, cs, lv, e, hrow, hel, htk, hx1, hl, ho⟩ := kG (bW.kp r3 k1) rE (j := (j : Int)) rfl hjl (Xu _ (List.getElem_mem _))
      injection e with e1 _ _
      subst e1
      have hr1 := hrow _ (Kp.refl _)
      have hadd : aT .add (.int .i64 (j : Int)) (.int .i64 1) = some (.int .i64 ((j + 1 : Nat) : Int)) := by rw [aH (by omega) (by omega)]; rfl
      refine iC hr1 b0' b1 TT b7 bm bc g1 (cJ c1 (cJ c2 (cJ hd1 (cJ hel (cJ htk (cJ hl ho)))))) ?_
      refine aj (qx b0' b1 TT b7) ?_
      refine C.mono (hQ n _ (yK.2 _ (List.getElem_mem _)) (d + 1) (by omega) (by omega) (by omega) _ _ hx1) ?_
      rintro _ σ2 ⟨⟨w, rfl, hw1, hw2, hw3⟩, k2⟩
      have g2 := (k2.get (ω.next) sG).trans g1
      have n2 := k2.next
      have hadm : aT .add (.int .i64 M) (.int .i64 w) = some (.int .i64 (M + w)) := aH (by omega) (by omega)
      have hall : (M + w < 1000 → (((bT b0 f).q) qs[j])) → (M + w < 1000 → (SS b0 t' ∧ LL b0 (KN b0) names ∧ LL b0 ((bT b0 f).e) es ∧ LL b0 ((bT b0 f).e) wh ∧ LL b0 (vF b0 f) body ∧ LL b0 (vF b0 f) other) ∧ ∀ p ∈ qs.take (j + 1), ((bT b0 f).q) p) := fun hg h => by
       obtain ⟨hp, ha⟩ := hM2 nO
       refine ⟨hp, fun p hp => ?_⟩
       rw [List.take_add_one, List.getElem?_eq_getElem hjl, List.mem_append] at hp
       rcases hp with hp | hp
       ·exact ha p hp
       ·simp only [Option.toList_some, List.mem_singleton] at hp
        subst hp
        exact hg h
      refine aY b0' b1 TT b7 bm bc g2 (cJ hadm hadd) ?_
      exact (by refine' ⟨qs.length - (j + 1), by omega, j + 1, M + w, hjl, rfl, ?_, ?_, ?_, ?_, ?_, ?_, ?_, k1.trans k2, g2, by omega, by push_cast; omega, by omega, hall fun h => hw3 (by omega)⟩; any_goals (first | exact qx b0' b1 TT b7 | fail))
     ·have c2 : decide (M < 1000) = false := decide_eq_false nO
      refine aY b0' b1 TT b7 bm bc g1 (cJ c1 (cJ c2 hl1)) ?_
      refine xL ?_
      exact (by refine' ⟨M, ?_, ?_, ?_, ?_, ?_, ?_, k1, g1, sG, by omega, hM1, fun h => absurd h nO⟩; any_goals (first | exact NY b0' b1 TT b7 bm | fail))
    ·have c1 : decide ((j : Int) < (qs.length : Int)) = false := by simp [hjl]
     refine aY b0' b1 TT b7 bm bc g1 (cJ c1 hl1) ?_
     refine xL ?_
     refine ⟨M, (dD), (qx b0' b1 TT b7), (qx b0' b1 TT b7), (qx b0' b1 TT b7), (qx b0' b1 TT b7), (aU bm), k1, g1, sG, by omega, hM1, fun h => ?_⟩
     obtain ⟨hp, ha⟩ := hM2 h
     rw [List.take_of_length_le (by omega)] at ha
     exact ⟨hp, (by show _ ≤ 1000; omega), ha⟩
   rintro B Tz ⟨M1, hz, b0', b1, TT, b7, bm, K1, g1, n1, hA1, hB1, Xr⟩
   (repeat (with_reducible first | apply u_n | apply t_n))
   refine jy b0' b1 bm TT hadd ?_
   refine ⟨l.length - (jo + 1), by omega, jo + 1, M1, hjl, rfl, (dD), (aU b0'), (aU b1), (aU bm), (dD), K0.trans K1, by push_cast; omega, hB1, fun h p hp => ?_⟩
   obtain ⟨⟨a1, a2, a3, a4, a5, a6⟩, a7⟩ := Xr h
   rw [List.take_add_one, List.getElem?_eq_getElem hjl, List.mem_append] at hp
   rcases hp with hp | hp
   ·exact hM2 nO p hp
   ·simp only [Option.toList_some, List.mem_singleton] at hp
    subst hp
    rw [hpe]
    exact ⟨_, _, _, _, _, _, _, _, _, rfl, hk, ha, a1, a2, a3, a7, a4, a5, a6⟩
  ·have c3 : decide (M < 1000) = false := decide_eq_false nO
   refine nH b0' b1 bm bc c2 c3 hl1 ?_
   refine xL ?_
   refine dS b0' b1 bm ?_
   refine dG ?_
   exact ⟨fin _ (by split <;> omega) (by split <;> omega) (fun h => by split at h <;> omega), k1⟩
 ·have c2 : decide ((jo : Int) < (l.length : Int)) = false := by simp [hjl]
  rw [List.take_of_length_le (by omega)] at hM2
  refine kR b0' b1 bm bc c2 hl1 ?_
  refine xL ?_
  refine dS b0' b1 bm ?_
  refine dG ?_
  exact ⟨fin _ (by split <;> omega) (by split <;> omega) (fun h => ⟨(by show _ ≤ 1000; split at h <;> omega), hM2 (by split at h <;> omega)⟩), k1⟩
theorem sD : ∀ f, WSt f
 | 0 => JH
 | f + 1 => DU (Cj f).1 (Cj f).2.1 (sD f)
end Go.Proofs.YthogkmcahnkkoaaGreatDoor
