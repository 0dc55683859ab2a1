/- What the weights of queries say. What the weights of names and variables say. -/
import Derived.Test.YthogkmcahnkkoaaGreatDoorJ39
namespace Go.Proofs.YthogkmcahnkkoaaGreatDoor
open Go.RowKit
set_option maxRecDepth 10000
set_option linter.unusedSimpArgs false
set_option linter.unusedVariables false
set_option maxHeartbeats 4000000
theorem Xv : WE 0 := by
 intro n p hp d hd0 hd2 hdf x σ hx
 obtain ⟨k, m, s, t, kids, qs, rfl⟩ := FM hp
 obtain ⟨v1, v2, rfl, r1, r2⟩ := qL hx
 obtain ⟨y1, jA, rfl⟩ := aG r1
 obtain ⟨y2, jc, rfl⟩ := aG r2
 have K0 : Kp σ (σ.push ⟨1, 42, 0, [.int .i64 k, .int .i64 m, .string s, .string t, .slice y1 kids.length jA, .slice y2 qs.length jc]⟩) := (Kp.refl σ).push _
 have c1 : decide ((60 : Int) < d) = true := by simp only [decide_eq_true_eq]; omega
 unfold Wgh
 refine fG Tryz.func36 Tryz.ntmps36 Tryz.results36 fun A hz a0 a1 => ?_
 refine dS a0 a1 c1 ?_
 refine dG ?_
 exact ⟨⟨1000, rfl, by decide, by decide, fun h => absurd h (by decide)⟩, K0⟩
theorem Xw : WQ 0 := by
 intro n p hp d hd0 hd2 hdf x σ hx
 obtain ⟨k, di, m, items, froms, wh, gr, ha, or, kids, rfl⟩ := abR hp
 obtain ⟨v1, v2, v3, v4, v5, v6, v7, rfl, r1, r2, r3, r4, r5, r6, r7⟩ := Jw hx
 obtain ⟨y1, jA, rfl⟩ := aG r1
 obtain ⟨y2, jc, rfl⟩ := aG r2
 obtain ⟨y3, jT, rfl⟩ := aG r3
 obtain ⟨y4, mF, rfl⟩ := aG r4
 obtain ⟨y5, mX, rfl⟩ := aG r5
 obtain ⟨y6, ng, rfl⟩ := aG r6
 obtain ⟨y7, zy, rfl⟩ := aG r7
 have K0 : Kp σ (σ.push ⟨1, 61, 0, [.int .i64 k, .bool di, .slice y1 items.length jA, .slice y2 froms.length jc, .slice y3 wh.length jT, .slice y4 gr.length mF, .slice y5 ha.length mX, .slice y6 or.length ng, .int .i64 m, .slice y7 kids.length zy]⟩) := (Kp.refl σ).push _
 have c1 : decide ((60 : Int) < d) = true := by simp only [decide_eq_true_eq]; omega
 unfold Wgh
 refine fG Tryz.func17 Tryz.ntmps17 Tryz.results17 fun A hz a0 a1 => ?_
 refine dS a0 a1 c1 ?_
 refine dG ?_
 exact ⟨⟨1000, rfl, by decide, by decide, fun h => absurd h (by decide)⟩, K0⟩
theorem Xx : WF 0 := by
 intro n p hp d hd0 hd2 hdf x σ hx
 obtain ⟨k, v, t, a, q, kids, on, rfl⟩ := Zr hp
 obtain ⟨v1, v2, v3, rfl, r1, r2, r3⟩ := FD hx
 obtain ⟨y1, jA, rfl⟩ := aG r1
 obtain ⟨y2, jc, rfl⟩ := aG r2
 obtain ⟨y3, jT, rfl⟩ := aG r3
 have K0 : Kp σ (σ.push ⟨1, 92, 0, [.int .i64 k, .string t, .bool v, .string a, .slice y1 q.length jA, .slice y2 kids.length jc, .slice y3 on.length jT]⟩) := (Kp.refl σ).push _
 have c1 : decide ((60 : Int) < d) = true := by simp only [decide_eq_true_eq]; omega
 unfold Wgh
 refine fG Tryz.func37 Tryz.ntmps37 Tryz.results37 fun A hz a0 a1 => ?_
 refine dS a0 a1 c1 ?_
 refine dG ?_
 exact ⟨⟨1000, rfl, by decide, by decide, fun h => absurd h (by decide)⟩, K0⟩
theorem DT {f : Nat} (hE : WE f) (hQ : WQ f) (hF : WF f) : WQ (f + 1) := by
 intro n p hp d hd0 hd2 hdf x σ hx
 cases n with
 | zero => exact hp.elim
 | succ n =>
 obtain ⟨k, di, m, items, froms, wh, gr, ha, or, kids, rfl, hk, hm, JE, JF, aeg, aeh, aei, abZ, su⟩ := hp
 obtain ⟨v1, v2, v3, v4, v5, v6, v7, rfl, r1, r2, r3, r4, r5, r6, r7⟩ := Jw hx
 obtain ⟨y1, jA, rfl⟩ := aG r1
 obtain ⟨y2, jc, rfl⟩ := aG r2
 obtain ⟨y3, jT, rfl⟩ := aG r3
 obtain ⟨y4, mF, rfl⟩ := aG r4
 obtain ⟨y5, mX, rfl⟩ := aG r5
 obtain ⟨y6, ng, rfl⟩ := aG r6
 obtain ⟨y7, zy, rfl⟩ := aG r7
 have afI : items.length ≤ 9223372036854775807 := Nat.le_trans JE.1 dZ
 have afJ : froms.length ≤ 9223372036854775807 := Nat.le_trans JF.1 dZ
 have ajY : wh.length ≤ 9223372036854775807 := Nat.le_trans aeg.1 dZ
 have ajZ : gr.length ≤ 9223372036854775807 := Nat.le_trans aeh.1 dZ
 have aj0 : ha.length ≤ 9223372036854775807 := Nat.le_trans aei.1 dZ
 have aj1 : or.length ≤ 9223372036854775807 := Nat.le_trans abZ.1 dZ
 have Xt : kids.length ≤ 9223372036854775807 := Nat.le_trans su.1 dZ
 have Xy : ∀ p ∈ items, ShT 7 p := Tn JE.2
 have aej : ∀ p ∈ or, ShT 7 p := Tq abZ.2
 have Xz : ∀ p ∈ froms, ShT 7 p := fun p hp => wF (JF.2 p hp)
 have AQ : ∀ p ∈ kids, ShT 10 p := fun p hp => kL (su.2 p hp)
 have K0 : Kp σ (σ.push ⟨1, 61, 0, [.int .i64 k, .bool di, .slice y1 items.length jA, .slice y2 froms.length jc, .slice y3 wh.length jT, .slice y4 gr.length mF, .slice y5 ha.length mX, .slice y6 or.length ng, .int .i64 m, .slice y7 kids.length zy]⟩) := (Kp.refl σ).push _
 unfold Wgh
 refine fG Tryz.func17 Tryz.ntmps17 Tryz.results17 fun A hz a0 a1 => ?_
 by_cases h60 : 60 < d
 ·have c1 : decide ((60 : Int) < d) = true := decide_eq_true h60
  refine dS a0 a1 c1 ?_
  refine dG ?_
  exact ⟨⟨1000, rfl, by decide, by decide, fun h => absurd h (by decide)⟩, K0⟩
 have c1 : decide ((60 : Int) < d) = false := decide_eq_false h60
 have hd1 : aT .add (.int .i64 d) (.int .i64 1) = some (.int .i64 (d + 1)) := aH (by omega) (by omega)
 refine dS a0 a1 c1 ?_
 obtain ⟨τ, hτ, kt, g0, n0⟩ : ∃ τ, τ = (σ.push ⟨1, 61, 0, [.int .i64 k, .bool di, .slice y1 items.length jA, .slice y2 froms.length jc, .slice y3 wh.length jT, .slice y4 gr.length mF, .slice y5 ha.length mX, .slice y6 or.length ng, .int .i64 m, .slice y7 kids.length zy]⟩) ∧ Kp σ τ ∧ τ.get σ.next = ⟨1, 61, 0, [.int .i64 k, .bool di, .slice y1 items.length jA, .slice y2 froms.length jc, .slice y3 wh.length jT, .slice y4 gr.length mF, .slice y5 ha.length mX, .slice y6 or.length ng, .int .i64 m, .slice y7 kids.length zy]⟩ ∧ σ.next < τ.next := ⟨_, rfl, K0, aA, Nat.lt_succ_self _⟩
 rw [← hτ]
 refine bY mixed (by kernel_rfl) (by kernel_rfl) ?_
 refine XL a0 a1 g0 hd1 ?_
 refine bD (aU a1) ?_
 refine C.mono (pG hE aeg (d := d + 1) (by omega) (by omega) (by omega) (bW.kp r3 kt)) ?_
 rintro _ τ1 ⟨⟨u1, rfl, u1a, u1b, u1c⟩, k1⟩
 have gg1 := (k1.get σ.next n0).trans g0
 have sG := k1.next
 have hq1 : aT .add (.int .i64 1) (.int .i64 u1) = some (.int .i64 (1 + u1)) := aH (by omega) (by omega)
 refine Uc a0 a1 gg1 hd1 hq1 ?_
 refine bD (aU a1) ?_
 refine C.mono (pG hE aeh (d := d + 1) (by omega) (by omega) (by omega) (bW.kp r4 (kt.trans k1))) ?_
 rintro _ τ2 ⟨⟨u2, rfl, u2a, u2b, u2c⟩, k2⟩
 have gg2 := (k2.get σ.next (by omega)).trans gg1
 have nn2 := k2.next
 have hq2 : aT .add (.int .i64 (1 + u1)) (.int .i64 u2) = some (.int .i64 (1 + u1 + u2)) := aH (by omega) (by omega)
 refine Uc a0 a1 gg2 hd1 hq2 ?_
 refine bD (aU a1) ?_
 refine C.mono (pG hE aei (d := d + 1) (by omega) (by omega) (by omega) (bW.kp r5 ((kt.trans k1).trans k2))) ?_
 rintro _ τ3 ⟨⟨u3, rfl, u3a, u3b, u3c⟩, k3⟩
 have gg3 := (k3.get σ.next (by omega)).trans gg2
 have nn3 := k3.next
 have hq3 : aT .add (.int .i64 (1 + u1 + u2)) (.int .i64 u3) = some (.int .i64 (1 + u1 + u2 + u3)) := aH (by omega) (by omega)
 refine Uc a0 a1 gg3 hd1 hq3 ?_
 refine oW [(1, 0), (7, 0), (7, 5), (13, 0), (13, 5), (13, 11)] ?_ ?_
 ·(repeat (refine aO (bg rfl rfl rfl rfl rfl (D8 a0 a1 g0 gg1 gg2 gg3)) ?_)); exact bn
 replace K0 := ((kt.trans k1).trans k2).trans k3
 replace g0 := gg3
 replace n0 : σ.next < τ3.next := by omega
 clear gg1 gg2 gg3 k1 k2 k3 sG nn2 nn3 hτ
 refine gC4 a0 a1 g0 hq3 ?_
 refine uz (fun B σ1 => ∃ M : Int, B.size = 126 ∧ B.get 2 = some (.pointer (some ⟨σ.next, 0, none⟩)) ∧ B.get 1 = some (.int .i64 d) ∧ B.get 5 = some (.int .i64 M) ∧ Kp σ σ1 ∧ σ1.get (σ.next) = ⟨1, 61, 0, [.int .i64 k, .bool di, .slice y1 items.length jA, .slice y2 froms.length jc, .slice y3 wh.length jT, .slice y4 gr.length mF, .slice y5 ha.length mX, .slice y6 or.length ng, .int .i64 m, .slice y7 kids.length zy]⟩ ∧ σ.next < σ1.next ∧ 1 ≤ M ∧ M ≤ 100000 ∧ (M < 1000 → (((LL b0 ((bT b0 f).e) wh ∧ LL b0 ((bT b0 f).e) gr) ∧ LL b0 ((bT b0 f).e) ha)) ∧ LL b0 (KI b0 (bT b0 f).e) items)) ?_ ?_
 ·apply b_k
  refine dB (dI (fun mz B σ1 => ∃ (j : Nat) (M : Int), j ≤ items.length ∧ mz = items.length - j ∧ B.size = 126 ∧ B.get 2 = some (.pointer (some ⟨σ.next, 0, none⟩)) ∧ B.get 1 = some (.int .i64 d) ∧ B.get 5 = some (.int .i64 M) ∧ B.get 6 = some (.int .i64 (j : Int)) ∧ Kp σ σ1 ∧ σ1.get (σ.next) = ⟨1, 61, 0, [.int .i64 k, .bool di, .slice y1 items.length jA, .slice y2 froms.length jc, .slice y3 wh.length jT, .slice y4 gr.length mF, .slice y5 ha.length mX, .slice y6 or.length ng, .int .i64 m, .slice y7 kids.length zy]⟩ ∧ σ.next < σ1.next ∧ (j : Int) + 1 ≤ M ∧ M ≤ 100000 ∧ (M < 1000 → (((LL b0 ((bT b0 f).e) wh ∧ LL b0 ((bT b0 f).e) gr) ∧ LL b0 ((bT b0 f).e) ha)) ∧ ∀ p ∈ items.take j, (KI b0 (bT b0 f).e) p)) ?_ (m := items.length) (by refine' ⟨0, (1 + u1 + u2 + u3), Nat.zero_le _, rfl, ?_, ?_, ?_, ?_, ?_, K0, g0, n0, by have := (show (1 : Int) ≤ 1 + u1 + u2 + u3 by omega); omega, by omega, fun h => ⟨(fun (h : 1 + u1 + u2 + u3 < 1000) => (⟨⟨u1c (by omega), u2c (by omega)⟩, u3c (by omega)⟩ : ((LL b0 ((bT b0 f).e) wh ∧ LL b0 ((bT b0 f).e) gr) ∧ LL b0 ((bT b0 f).e) ha))) h, by simp⟩⟩; any_goals (first | exact qx a0 a1 g0 hq3 | fail)))
  rintro mz B τ ⟨j, M, hj, rfl, hz, b2, b1, bm, bc, k1, g1, sG, hM0, hM1, hM2⟩
  have hl1 : ∀ τ, fF Tryz.prog τ 57 (.slice y1 items.length jA) = some (.int .i64 items.length) := fun τ => U2 τ _ _ _
  by_cases hjl : j < items.length
  ·have c1 : decide ((j : Int) < (items.length : Int)) = true := by simp [hjl]
   by_cases nO : M < 1000
   ·have c2 : decide (M < 1000) = true := decide_eq_true nO
    obtain ⟨bb, o, qq, c, cs, lv, e, hrow, hel, htk, hx1, hl, ho⟩ := kG (bW.kp r1 k1) PY (j := (j : Int)) rfl hjl (Xy _ (List.getElem_mem _))
    injection e with e1 _ _
    subst e1
    have hr1 := hrow _ (Kp.refl _)
    have hadd : aT .add (.int .i64 (j : Int)) (.int .i64 1) = some (.int .i64 ((j + 1 : Nat) : Int)) := by rw [aH (by omega) (by omega)]; rfl
    obtain ⟨y, nm, hpn, akb, hy⟩ := JE.2 _ (List.getElem_mem hjl)
    obtain ⟨k', m', s', t', XA, qs', rfl⟩ := FM hy
    obtain ⟨uk, uq, uv, elv, x1, x2, x3⟩ := OL (show Rd τ _ (.agg ⟨um (kH k' m' s' t' XA qs') ++ [.string nm]⟩) _ from hpn ▸ hx1)
    have huv := jQ.1 x3
    subst huv
    have O4 : lv = [.int .i64 k', .int .i64 m', .string s', .string t', uk, uq, .string nm] := by injection elv with h1; injection h1
    subst O4
    have ht6 : (cs.drop qq).take 6 = [.int .i64 k', .int .i64 m', .string s', .string t', uk, uq] := by
     have := congrArg (List.take 6) htk
     rw [List.take_take] at this
     exact this
    have x1o := ay x1
    have x2o := ay x2
    have hc6 : cs[qq + 6]? = some (.string nm) := by
     have := congrArg (fun l => l[6]?) htk
     simpa [List.getElem?_take, List.getElem?_drop] using this
    refine iC hr1 b2 b1 bm bc g1 c1 c2 (cJ hd1 (cJ hel (cJ ht6 (cJ x1o x2o)))) ?_
    refine aj (bP b2 b1) ?_
    refine C.mono (hE n _ hy (d + 1) (by omega) (by omega) (by omega) _ _ (yI x1 x2)) ?_
    rintro _ σ2 ⟨⟨w, rfl, hw1, hw2, hw3⟩, k2⟩
    have g2 := (k2.get (σ.next) sG).trans g1
    have n2 := k2.next
    have hadm : aT .add (.int .i64 M) (.int .i64 w) = some (.int .i64 (M + w)) := aH (by omega) (by omega)
    have hall : (M + w < 1000 → ((KI b0 (bT b0 f).e) items[j])) → (M + w < 1000 → (((LL b0 ((bT b0 f).e) wh ∧ LL b0 ((bT b0 f).e) gr) ∧ LL b0 ((bT b0 f).e) ha)) ∧ ∀ p ∈ items.take (j + 1), (KI b0 (bT b0 f).e) p) := fun hg h => by
     obtain ⟨hp, ha⟩ := hM2 nO
     refine ⟨hp, fun p hp => ?_⟩
     rw [List.take_add_one, List.getElem?_eq_getElem hjl, List.mem_append] at hp
     rcases hp with hp | hp
     ·exact ha p hp
     ·simp only [Option.toList_some, List.mem_singleton] at hp
      subst hp
      exact hg h
    have hr2 := hrow _ k2
    by_cases hns : 1200 < nm.size
    ·have c3 : decide ((1200 : Int) < (nm.size : Int)) = true := by simp only [decide_eq_true_eq]; omega
     refine iC hr2 b2 b1 bm bc g2 hadm hadd (cJ hel (cJ hc6 c3)) ?_
     refine dG ?_
     exact ⟨⟨1000, rfl, by decide, by decide, fun h => absurd h (by decide)⟩, k1.trans k2⟩
    have c3 : decide ((1200 : Int) < (nm.size : Int)) = false := by simp only [decide_eq_false_iff_not]; omega
    refine iC hr2 b2 b1 bm bc g2 hadm hadd (cJ hel (cJ hc6 c3)) ?_
    exact (by refine' ⟨items.length - (j + 1), by omega, j + 1, M + w, hjl, rfl, ?_, ?_, ?_, ?_, ?_, k1.trans k2, g2, by omega, by push_cast; omega, by omega, hall fun h => ⟨_, nm, hpn, (by show _ ≤ 1200; omega), hw3 (by omega)⟩⟩; any_goals (first | exact bP b2 b1 | fail))
   ·have c2 : decide (M < 1000) = false := decide_eq_false nO
    refine aY b2 b1 bm bc g1 c1 c2 hl1 ?_
    refine xL ?_
    exact (by refine' ⟨M, ?_, ?_, ?_, ?_, k1, g1, sG, by omega, hM1, fun h => absurd h nO⟩; any_goals (first | exact lF b2 b1 bm | fail))
  ·have c1 : decide ((j : Int) < (items.length : Int)) = false := by simp [hjl]
   refine nH b2 b1 bm bc g1 c1 hl1 ?_
   refine xL ?_
   refine ⟨M, (dD), (bP b2 b1), (bP b2 b1), (aU bm), k1, g1, sG, by omega, hM1, fun h => ?_⟩
   obtain ⟨hp, ha⟩ := hM2 h
   rw [List.take_of_length_le (by omega)] at ha
   exact ⟨hp, (by show _ ≤ 1000; omega), ha⟩
 rintro B Tz ⟨M1, hz, b2, b1, bm, K1, g1, n1, hA1, hB1, Xr⟩
 refine gC4 b2 b1 bm g1 ?_
 refine uz (fun B σ1 => ∃ M : Int, B.size = 126 ∧ B.get 2 = some (.pointer (some ⟨σ.next, 0, none⟩)) ∧ B.get 1 = some (.int .i64 d) ∧ B.get 5 = some (.int .i64 M) ∧ Kp σ σ1 ∧ σ1.get (σ.next) = ⟨1, 61, 0, [.int .i64 k, .bool di, .slice y1 items.length jA, .slice y2 froms.length jc, .slice y3 wh.length jT, .slice y4 gr.length mF, .slice y5 ha.length mX, .slice y6 or.length ng, .int .i64 m, .slice y7 kids.length zy]⟩ ∧ σ.next < σ1.next ∧ 1 ≤ M ∧ M ≤ 100000 ∧ (M < 1000 → ((((LL b0 ((bT b0 f).e) wh ∧ LL b0 ((bT b0 f).e) gr) ∧ LL b0 ((bT b0 f).e) ha)) ∧ LL b0 (KI b0 (bT b0 f).e) items) ∧ LL b0 (KK (bT b0 f).e) or)) ?_ ?_
 ·apply b_k
  refine dB (dI (fun mz B σ1 => ∃ (j : Nat) (M : Int), j ≤ or.length ∧ mz = or.length - j ∧ B.size = 126 ∧ B.get 2 = some (.pointer (some ⟨σ.next, 0, none⟩)) ∧ B.get 1 = some (.int .i64 d) ∧ B.get 5 = some (.int .i64 M) ∧ B.get 7 = some (.int .i64 (j : Int)) ∧ Kp σ σ1 ∧ σ1.get (σ.next) = ⟨1, 61, 0, [.int .i64 k, .bool di, .slice y1 items.length jA, .slice y2 froms.length jc, .slice y3 wh.length jT, .slice y4 gr.length mF, .slice y5 ha.length mX, .slice y6 or.length ng, .int .i64 m, .slice y7 kids.length zy]⟩ ∧ σ.next < σ1.next ∧ (j : Int) + 1 ≤ M ∧ M ≤ 100000 ∧ (M < 1000 → ((((LL b0 ((bT b0 f).e) wh ∧ LL b0 ((bT b0 f).e) gr) ∧ LL b0 ((bT b0 f).e) ha)) ∧ LL b0 (KI b0 (bT b0 f).e) items) ∧ ∀ p ∈ or.take j, (KK (bT b0 f).e) p)) ?_ (m := or.length) (by refine' ⟨0, M1, Nat.zero_le _, rfl, ?_, ?_, ?_, ?_, ?_, K1, g1, n1, by have := hA1; omega, hB1, fun h => ⟨Xr h, by simp⟩⟩; any_goals (first | exact qx b2 b1 bm g1 | fail)))
  rintro mz B τ ⟨j, M, hj, rfl, hz, b2, b1, bm, bc, k1, g1, sG, hM0, hM1, hM2⟩
  have hl1 : ∀ τ, fF Tryz.prog τ 59 (.slice y6 or.length ng) = some (.int .i64 or.length) := fun τ => PX τ _ _ _
  by_cases hjl : j < or.length
  ·have c1 : decide ((j : Int) < (or.length : Int)) = true := by simp [hjl]
   by_cases nO : M < 1000
   ·have c2 : decide (M < 1000) = true := decide_eq_true nO
    obtain ⟨bb, o, qq, c, cs, lv, e, hrow, hel, htk, hx1, hl, ho⟩ := kG (bW.kp r6 k1) PZ (j := (j : Int)) rfl hjl (aej _ (List.getElem_mem _))
    injection e with e1 _ _
    subst e1
    have hr1 := hrow _ (Kp.refl _)
    have hadd : aT .add (.int .i64 (j : Int)) (.int .i64 1) = some (.int .i64 ((j + 1 : Nat) : Int)) := by rw [aH (by omega) (by omega)]; rfl
    obtain ⟨y, nm, hpn, hy⟩ := abZ.2 _ (List.getElem_mem hjl)
    obtain ⟨k', m', s', t', XA, qs', rfl⟩ := FM hy
    obtain ⟨uk, uq, uv, elv, x1, x2, x3⟩ := OL (show Rd τ _ (.agg ⟨um (kH k' m' s' t' XA qs') ++ [.bool nm]⟩) _ from hpn ▸ hx1)
    have huv := sW.1 x3
    subst huv
    have O4 : lv = [.int .i64 k', .int .i64 m', .string s', .string t', uk, uq, .bool nm] := by injection elv with h1; injection h1
    subst O4
    have ht6 : (cs.drop qq).take 6 = [.int .i64 k', .int .i64 m', .string s', .string t', uk, uq] := by
     have := congrArg (List.take 6) htk
     rw [List.take_take] at this
     exact this
    have x1o := ay x1
    have x2o := ay x2
    refine iC hr1 b2 b1 bm bc g1 c1 c2 (cJ hd1 (cJ hel (cJ ht6 (cJ x1o x2o)))) ?_
    refine aj (bP b2 b1) ?_
    refine C.mono (hE n _ hy (d + 1) (by omega) (by omega) (by omega) _ _ (yI x1 x2)) ?_
    rintro _ σ2 ⟨⟨w, rfl, hw1, hw2, hw3⟩, k2⟩
    have g2 := (k2.get (σ.next) sG).trans g1
    have n2 := k2.next
    have hadm : aT .add (.int .i64 M) (.int .i64 w) = some (.int .i64 (M + w)) := aH (by omega) (by omega)
    have hall : (M + w < 1000 → ((KK (bT b0 f).e) or[j])) → (M + w < 1000 → ((((LL b0 ((bT b0 f).e) wh ∧ LL b0 ((bT b0 f).e) gr) ∧ LL b0 ((bT b0 f).e) ha)) ∧ LL b0 (KI b0 (bT b0 f).e) items) ∧ ∀ p ∈ or.take (j + 1), (KK (bT b0 f).e) p) := fun hg h => by
     obtain ⟨hp, ha⟩ := hM2 nO
     refine ⟨hp, fun p hp => ?_⟩
     rw [List.take_add_one, List.getElem?_eq_getElem hjl, List.mem_append] at hp
     rcases hp with hp | hp
     ·exact ha p hp
     ·simp only [Option.toList_some, List.mem_singleton] at hp
      subst hp
      exact hg h
    refine nH b2 b1 bm bc g2 hadm hadd ?_
    exact (by refine' ⟨or.length - (j + 1), by omega, j + 1, M + w, hjl, rfl, ?_, ?_, ?_, ?_, ?_, k1.trans k2, g2, by omega, by push_cast; omega, by omega, hall fun h => ⟨_, nm, hpn, hw3 (by omega)⟩⟩; any_goals (first | exact bP b2 b1 | fail))
   ·have c2 : decide (M < 1000) = false := decide_eq_false nO
    refine aY b2 b1 bm bc g1 c1 c2 hl1 ?_
    refine xL ?_
    exact (by refine' ⟨M, ?_, ?_, ?_, ?_, k1, g1, sG, by omega, hM1, fun h => absurd h nO⟩; any_goals (first | exact lF b2 b1 bm | fail))
  ·have c1 : decide ((j : Int) < (or.length : Int)) = false := by simp [hjl]
   refine nH b2 b1 bm bc g1 c1 hl1 ?_
   refine xL ?_
   refine ⟨M, (dD), (bP b2 b1), (bP b2 b1), (aU bm), k1, g1, sG, by omega, hM1, fun h => ?_⟩
   obtain ⟨hp, ha⟩ := hM2 h
   rw [List.take_of_length_le (by omega)] at ha
   exact ⟨hp, (by show _ ≤ 1000; omega), ha⟩
 rintro B aef ⟨M2, hz, b2, b1, bm, K2, g2, n2, hA2, hB2, hC2⟩
 refine gC4 b2 b1 bm g2 ?_
 refine uz (fun B σ1 => ∃ M : Int, B.size = 126 ∧ B.get 2 = some (.pointer (some ⟨σ.next, 0, none⟩)) ∧ B.get 1 = some (.int .i64 d) ∧ B.get 5 = some (.int .i64 M) ∧ Kp σ σ1 ∧ σ1.get (σ.next) = ⟨1, 61, 0, [.int .i64 k, .bool di, .slice y1 items.length jA, .slice y2 froms.length jc, .slice y3 wh.length jT, .slice y4 gr.length mF, .slice y5 ha.length mX, .slice y6 or.length ng, .int .i64 m, .slice y7 kids.length zy]⟩ ∧ σ.next < σ1.next ∧ 1 ≤ M ∧ M ≤ 100000 ∧ (M < 1000 → (((((LL b0 ((bT b0 f).e) wh ∧ LL b0 ((bT b0 f).e) gr) ∧ LL b0 ((bT b0 f).e) ha)) ∧ LL b0 (KI b0 (bT b0 f).e) items) ∧ LL b0 (KK (bT b0 f).e) or) ∧ LL b0 ((bT b0 f).f) froms)) ?_ ?_
 ·apply b_k
  refine dB (dI (fun mz B σ1 => ∃ (j : Nat) (M : Int), j ≤ froms.length ∧ mz = froms.length - j ∧ B.size = 126 ∧ B.get 2 = some (.pointer (some ⟨σ.next, 0, none⟩)) ∧ B.get 1 = some (.int .i64 d) ∧ B.get 5 = some (.int .i64 M) ∧ B.get 8 = some (.int .i64 (j : Int)) ∧ Kp σ σ1 ∧ σ1.get (σ.next) = ⟨1, 61, 0, [.int .i64 k, .bool di, .slice y1 items.length jA, .slice y2 froms.length jc, .slice y3 wh.length jT, .slice y4 gr.length mF, .slice y5 ha.length mX, .slice y6 or.length ng, .int .i64 m, .slice y7 kids.length zy]⟩ ∧ σ.next < σ1.next ∧ (j : Int) + 1 ≤ M ∧ M ≤ 100000 ∧ (M < 1000 → (((((LL b0 ((bT b0 f).e) wh ∧ LL b0 ((bT b0 f).e) gr) ∧ LL b0 ((bT b0 f).e) ha)) ∧ LL b0 (KI b0 (bT b0 f).e) items) ∧ LL b0 (KK (bT b0 f).e) or) ∧ ∀ p ∈ froms.take j, ((bT b0 f).f) p)) ?_ (m := froms.length) (by refine' ⟨0, M2, Nat.zero_le _, rfl, ?_, ?_, ?_, ?_, ?_, K2, g2, n2, by have := hA2; omega, hB2, fun h => ⟨hC2 h, by simp⟩⟩; any_goals (first | exact qx b2 b1 bm g2 | fail)))
  rintro mz B τ ⟨j, M, hj, rfl, hz, b2, b1, bm, bc, k1, g1, sG, hM0, hM1, hM2⟩
  have hl1 : ∀ τ, fF Tryz.prog τ 58 (.slice y2 froms.length jc) = some (.int .i64 froms.length) := fun τ => PW τ _ _ _
  by_cases hjl : j < froms.length
  ·have c1 : decide ((j : Int) < (froms.length : Int)) = true := by simp [hjl]
   by_cases nO : M < 1000
   ·have c2 : decide (M < 1000) = true := decide_eq_true nO
    obtain ⟨bb, o, qq, c, cs, lv, e, hrow, hel, htk, hx1, hl, ho⟩ := kG (bW.kp r2 k1) yE (j := (j : Int)) rfl hjl (Xz _ (List.getElem_mem _))
    injection e with e1 _ _
    subst e1
    have hr1 := hrow _ (Kp.refl _)
    have hadd : aT .add (.int .i64 (j : Int)) (.int .i64 1) = some (.int .i64 ((j + 1 : Nat) : Int)) := by rw [aH (by omega) (by omega)]; rfl
    refine iC hr1 b2 b1 bm bc g1 c1 c2 (cJ hd1 (cJ hel (cJ htk (cJ hl ho)))) ?_
    refine aj (bP b2 b1) ?_
    refine C.mono (hF n _ (JF.2 _ (List.getElem_mem _)) (d + 1) (by omega) (by omega) (by omega) _ _ hx1) ?_
    rintro _ σ2 ⟨⟨w, rfl, hw1, hw2, hw3⟩, k2⟩
    have g2 := (k2.get (σ.next) sG).trans g1
    have n2 := k2.next
    have hadm : aT .add (.int .i64 M) (.int .i64 w) = some (.int .i64 (M + w)) := aH (by omega) (by omega)
    have hall : (M + w < 1000 → (((bT b0 f).f) froms[j])) → (M + w < 1000 → (((((LL b0 ((bT b0 f).e) wh ∧ LL b0 ((bT b0 f).e) gr) ∧ LL b0 ((bT b0 f).e) ha)) ∧ LL b0 (KI b0 (bT b0 f).e) items) ∧ LL b0 (KK (bT b0 f).e) or) ∧ ∀ p ∈ froms.take (j + 1), ((bT b0 f).f) p) := fun hg h => by
     obtain ⟨hp, ha⟩ := hM2 nO
     refine ⟨hp, fun p hp => ?_⟩
     rw [List.take_add_one, List.getElem?_eq_getElem hjl, List.mem_append] at hp
     rcases hp with hp | hp
     ·exact ha p hp
     ·simp only [Option.toList_some, List.mem_singleton] at hp
      subst hp
      exact hg h
    refine nH b2 b1 bm bc g2 hadm hadd ?_
    exact (by refine' ⟨froms.length - (j + 1), by omega, j + 1, M + w, hjl, rfl, ?_, ?_, ?_, ?_, ?_, k1.trans k2, g2, by omega, by push_cast; omega, by omega, hall fun h => hw3 (by omega)⟩; any_goals (first | exact bP b2 b1 | fail))
   ·have c2 : decide (M < 1000) = false := decide_eq_false nO
    refine aY b2 b1 bm bc g1 c1 c2 hl1 ?_
    refine xL ?_
    exact (by refine' ⟨M, ?_, ?_, ?_, ?_, k1, g1, sG, by omega, hM1, fun h => absurd h nO⟩; any_goals (first | exact lF b2 b1 bm | fail))
  ·have c1 : decide ((j : Int) < (froms.length : Int)) = false := by simp [hjl]
   refine nH b2 b1 bm bc g1 c1 hl1 ?_
   refine xL ?_
   refine ⟨M, (dD), (bP b2 b1), (bP b2 b1), (aU bm), k1, g1, sG, by omega, hM1, fun h => ?_⟩
   obtain ⟨hp, ha⟩ := hM2 h
   rw [List.take_of_length_le (by omega)] at ha
   exact ⟨hp, (by show _ ≤ 1000; omega), ha⟩
 rintro B akc ⟨M3, hz, b2, b1, bm, K3, g3, n3, hA3, hB3, hC3⟩
 refine gC4 b2 b1 bm g3 ?_
 refine uz (fun B σ1 => ∃ M : Int, B.size = 126 ∧ B.get 2 = some (.pointer (some ⟨σ.next, 0, none⟩)) ∧ B.get 1 = some (.int .i64 d) ∧ B.get 5 = some (.int .i64 M) ∧ Kp σ σ1 ∧ σ1.get (σ.next) = ⟨1, 61, 0, [.int .i64 k, .bool di, .slice y1 items.length jA, .slice y2 froms.length jc, .slice y3 wh.length jT, .slice y4 gr.length mF, .slice y5 ha.length mX, .slice y6 or.length ng, .int .i64 m, .slice y7 kids.length zy]⟩ ∧ σ.next < σ1.next ∧ 1 ≤ M ∧ M ≤ 100000 ∧ (M < 1000 → ((((((LL b0 ((bT b0 f).e) wh ∧ LL b0 ((bT b0 f).e) gr) ∧ LL b0 ((bT b0 f).e) ha)) ∧ LL b0 (KI b0 (bT b0 f).e) items) ∧ LL b0 (KK (bT b0 f).e) or) ∧ LL b0 ((bT b0 f).f) froms) ∧ LL b0 ((bT b0 f).q) kids)) ?_ ?_
 ·apply b_k
  refine dB (dI (fun mz B σ1 => ∃ (j : Nat) (M : Int), j ≤ kids.length ∧ mz = kids.length - j ∧ B.size = 126 ∧ B.get 2 = some (.pointer (some ⟨σ.next, 0, none⟩)) ∧ B.get 1 = some (.int .i64 d) ∧ B.get 5 = some (.int .i64 M) ∧ B.get 9 = some (.int .i64 (j : Int)) ∧ Kp σ σ1 ∧ σ1.get (σ.next) = ⟨1, 61, 0, [.int .i64 k, .bool di, .slice y1 items.length jA, .slice y2 froms.length jc, .slice y3 wh.length jT, .slice y4 gr.length mF, .slice y5 ha.length mX, .slice y6 or.length ng, .int .i64 m, .slice y7 kids.length zy]⟩ ∧ σ.next < σ1.next ∧ (j : Int) + 1 ≤ M ∧ M ≤ 100000 ∧ (M < 1000 → ((((((LL b0 ((bT b0 f).e) wh ∧ LL b0 ((bT b0 f).e) gr) ∧ LL b0 ((bT b0 f).e) ha)) ∧ LL b0 (KI b0 (bT b0 f).e) items) ∧ LL b0 (KK (bT b0 f).e) or) ∧ LL b0 ((bT b0 f).f) froms) ∧ ∀ p ∈ kids.take j, ((bT b0 f).q) p)) ?_ (m := kids.length) (by refine' ⟨0, M3, Nat.zero_le _, rfl, ?_, ?_, ?_, ?_, ?_, K3, g3, n3, by have := hA3; omega, hB3, fun h => ⟨hC3 h, by simp⟩⟩; any_goals (first | exact qx b2 b1 bm g3 | fail)))
  rintro mz B τ ⟨j, M, hj, rfl, hz, b2, b1, bm, bc, k1, g1, sG, hM0, hM1, hM2⟩
  have hl1 : ∀ τ, fF Tryz.prog τ 40 (.slice y7 kids.length zy) = some (.int .i64 kids.length) := fun τ => He τ _ _ _
  by_cases hjl : j < kids.length
  ·have c1 : decide ((j : Int) < (kids.length : Int)) = true := by simp [hjl]
   by_cases nO : M < 1000
   ·have c2 : decide (M < 1000) = true := decide_eq_true nO
    obtain ⟨bb, o, qq, c, cs, lv, e, hrow, hel, htk, hx1, hl, ho⟩ := kG (bW.kp r7 k1) rE (j := (j : Int)) rfl hjl (AQ _ (List.getElem_mem _))
    injection e with e1 _ _
    subst e1
    have hr1 := hrow _ (Kp.refl _)
    have hadd : aT .add (.int .i64 (j : Int)) (.int .i64 1) = some (.int .i64 ((j + 1 : Nat) : Int)) := by rw [aH (by omega) (by omega)]; rfl
    refine iC hr1 b2 b1 bm bc g1 c1 c2 (cJ hd1 (cJ hel (cJ htk (cJ hl ho)))) ?_
    refine aj (bP b2 b1) ?_
    refine C.mono (hQ n _ (su.2 _ (List.getElem_mem _)) (d + 1) (by omega) (by omega) (by omega) _ _ hx1) ?_
    rintro _ σ2 ⟨⟨w, rfl, hw1, hw2, hw3⟩, k2⟩
    have g2 := (k2.get (σ.next) sG).trans g1
    have n2 := k2.next
    have hadm : aT .add (.int .i64 M) (.int .i64 w) = some (.int .i64 (M + w)) := aH (by omega) (by omega)
    have hall : (M + w < 1000 → (((bT b0 f).q) kids[j])) → (M + w < 1000 → ((((((LL b0 ((bT b0 f).e) wh ∧ LL b0 ((bT b0 f).e) gr) ∧ LL b0 ((bT b0 f).e) ha)) ∧ LL b0 (KI b0 (bT b0 f).e) items) ∧ LL b0 (KK (bT b0 f).e) or) ∧ LL b0 ((bT b0 f).f) froms) ∧ ∀ p ∈ kids.take (j + 1), ((bT b0 f).q) p) := fun hg h => by
     obtain ⟨hp, ha⟩ := hM2 nO
     refine ⟨hp, fun p hp => ?_⟩
     rw [List.take_add_one, List.getElem?_eq_getElem hjl, List.mem_append] at hp
     rcases hp with hp | hp
     ·exact ha p hp
     ·simp only [Option.toList_some, List.mem_singleton] at hp
      subst hp
      exact hg h
    refine nH b2 b1 bm bc g2 hadm hadd ?_
    exact (by refine' ⟨kids.length - (j + 1), by omega, j + 1, M + w, hjl, rfl, ?_, ?_, ?_, ?_, ?_, k1.trans k2, g2, by omega, by push_cast; omega, by omega, hall fun h => hw3 (by omega)⟩; any_goals (first | exact bP b2 b1 | fail))
   ·have c2 : decide (M < 1000) = false := decide_eq_false nO
    refine aY b2 b1 bm bc g1 c1 c2 hl1 ?_
    refine xL ?_
    exact (by refine' ⟨M, ?_, ?_, ?_, ?_, k1, g1, sG, by omega, hM1, fun h => absurd h nO⟩; any_goals (first | exact lF b2 b1 bm | fail))
  ·have c1 : decide ((j : Int) < (kids.length : Int)) = false := by simp [hjl]
   refine nH b2 b1 bm bc g1 c1 hl1 ?_
   refine xL ?_
   refine ⟨M, (dD), (bP b2 b1), (bP b2 b1), (aU bm), k1, g1, sG, by omega, hM1, fun h => ?_⟩
   obtain ⟨hp, ha⟩ := hM2 h
   rw [List.take_of_length_le (by omega)] at ha
   exact ⟨hp, (by show _ ≤ 1000; omega), ha⟩
 rintro B ake ⟨M4, hz, b2, b1, bm, K4, g4, n4, hA4, hB4, hC4⟩
 refine dV b2 b1 bm g4 ?_
 refine dG ?_
 refine ⟨⟨_, rfl, by split <;> omega, by split <;> omega, fun h => ?_⟩, K4⟩
 obtain ⟨⟨⟨⟨⟨⟨e1, e2⟩, e3⟩, e4⟩, e5⟩, e6⟩, e7⟩ := hC4 (by split at h <;> omega)
 exact ⟨_, _, _, _, _, _, _, _, _, _, rfl, hk, hm, e4, e6, e1, e2, e3, e5, e7⟩
theorem Cj : ∀ f, WE f ∧ WQ f ∧ WF f
 | 0 => ⟨Xv, Xw, Xx⟩
 | f + 1 => have ⟨h1, h2, h3⟩ := Cj f; ⟨O1 h1 h2, DT h1 h2 h3, FT h1 h2 h3⟩
theorem Ip {σ : AW} {D : Nat → Prop} {vars procs body : List Tr} {x : Value} (h : Rd σ D (zq vars procs body) x) : ∃ v1 v2 v3, x = .agg ⟨[v1, v2, v3]⟩ ∧ Rd σ D (sl 2 vars) v1 ∧ Rd σ D (sl 4 procs) v2 ∧ Rd σ D (sl 9 body) v3 := by
 obtain ⟨_, rfl, v1, _, rfl, h1, v2, _, rfl, h2, v3, _, rfl, h3, rfl⟩ := jh.1 h
 exact ⟨_, _, _, rfl, h1, h2, h3⟩
theorem O5 {σ : AW} {D : Nat → Prop} {vars procs body : List Tr} {v1 v2 v3 : Value} (h1 : Rd σ D (sl 2 vars) v1) (h2 : Rd σ D (sl 4 procs) v2) (h3 : Rd σ D (sl 9 body) v3) : Rd σ D (zq vars procs body) (.agg ⟨[v1, v2, v3]⟩) := jh.2 ⟨_, rfl, _, _, rfl, h1, _, _, rfl, h2, _, _, rfl, h3, rfl⟩
theorem ZE {σ : AW} {ps : List Tr} {v : Value} (h : bW (sl 1 ps) v σ) {i : Nat} {j : Int} (hj : j = (i : Int)) (hi : i < ps.length) {s : ByteArray} (hs : ps[i] = .string s) :
  ∃ bb o q c cs, v = .slice (some ⟨bb, o, none⟩) ps.length c ∧ (∀ τ, Kp σ τ → ∀ q, rowOf τ ⟨bb, q, none⟩ = some cs) ∧ bU Tryz.prog 9 ⟨bb, o, none⟩ ps.length j = some (.pointer (some ⟨bb, q, none⟩)) ∧ cs[q]? = some (.string s) := by
 obtain ⟨bb, o, c, cs0, x, rfl, hrow, hel, htk, hx, hxl⟩ := qo h Bq hi
 have hx0 : x = .string s := by rw [hs] at hx; exact jQ.1 hx
 subst hx0
 simp only [aF] at htk
 rw [Nat.mul_one] at hel htk
 subst hj
 refine ⟨bb, o, o + i, c, cs0, rfl, hrow, hel, ?_⟩
 have : ((cs0.drop (o + i)).take 1)[0]? = some (.string s) := by rw [htk]; rfl
 simpa [List.getElem?_take, List.getElem?_drop] using this
theorem JG {l : List Tr} (hn : ∀ p ∈ l, ∃ s, p = .string s) (hll : l.length ≤ 9223372036854775807) {v : Value} {σ : AW} (hx : bW (sl 1 l) v σ) : Wgh 9 [v] σ 0 (LL b0 (KN b0) l) := by
 obtain ⟨va, vc, rfl⟩ := aG hx
 unfold Wgh
 have hl1 : ∀ τ, fF Tryz.prog τ 38 (.slice va l.length vc) = some (.int .i64 l.length) := fun τ => KL τ _ _ _
 refine pK Tryz.func9 Tryz.ntmps9 Tryz.results9 fun A hz a0 => ?_
 refine jR a0 ?_
 refine dB (dI (fun mz B σ1 => ∃ j : Nat, j ≤ l.length ∧ mz = l.length - j ∧ B.size = 24 ∧ B.get 0 = some (.slice va l.length vc) ∧ B.get 3 = some (.int .i64 (j : Int)) ∧ B.get 4 = some (.int .i64 (j : Int)) ∧ Kp σ σ1 ∧ j ≤ 1000 ∧ ∀ p ∈ l.take j, KN b0 p) ?_ (m := l.length) (by refine' ⟨0, Nat.zero_le _, rfl, ?_, ?_, ?_, ?_, Kp.refl σ, by decide, by simp⟩; any_goals (first | exact aU a0 | fail)))
 rintro mz B σ1 ⟨j, hj, rfl, hz, b0', b3, b4, k1, hj2, hall⟩
 by_cases hjl : j < l.length
 ·have c1 : decide ((j : Int) < (l.length : Int)) = true := by simp [hjl]
  by_cases hM : j < 1000
  ·have c2 : decide ((j : Int) < 1000) = true := by simp only [decide_eq_true_eq]; omega
   obtain ⟨s, hs⟩ := hn _ (List.getElem_mem hjl)
   obtain ⟨bb, o, q, c, cs, e, hrow, hel, hcs⟩ := ZE (bW.kp hx k1) (j := (j : Int)) rfl hjl hs
   injection e with e1 _ _
   subst e1
   have hr1 := hrow _ (Kp.refl _)
   have hadd : aT .add (.int .i64 (j : Int)) (.int .i64 1) = some (.int .i64 ((j + 1 : Nat) : Int)) := by rw [aH (by omega) (by omega)]; rfl
   by_cases hss : 1200 < s.size
   ·have c3 : decide ((1200 : Int) < (s.size : Int)) = true := by simp only [decide_eq_true_eq]; omega
    refine iC hr1 b0' b3 b4 c1 c2 c3 hel (cJ hcs hadd) ?_
    refine dG ?_
    exact ⟨⟨1000, rfl, by decide, by decide, fun h => absurd h (by decide)⟩, k1⟩
   ·have c3 : decide ((1200 : Int) < (s.size : Int)) = false := by simp only [decide_eq_false_iff_not]; omega
    refine iC hr1 b0' b3 b4 c1 c2 c3 hel (cJ hcs hadd) ?_
    refine ⟨l.length - (j + 1), by omega, j + 1, hjl, rfl, (dD), (aU b0'), (dD), (dD), k1, hM, fun p hp => ?_⟩
    rw [List.take_add_one, List.getElem?_eq_getElem hjl, List.mem_append] at hp
    rcases hp with hp | hp
    ·exact hall p hp
    ·simp only [Option.toList_some, List.mem_singleton] at hp
     subst hp
     exact ⟨s, hs, (by show _ ≤ 1200; omega)⟩
  ·have c2 : decide ((j : Int) < 1000) = false := by simp only [decide_eq_false_iff_not]; omega
   refine kR b0' b3 b4 c1 c2 hl1 ?_
   refine xL ?_
   refine dS b0' b3 b4 ?_
   refine dG ?_
   exact ⟨⟨_, rfl, by omega, by omega, fun h => by omega⟩, k1⟩
 ·have c1 : decide ((j : Int) < (l.length : Int)) = false := by simp [hjl]
  rw [List.take_of_length_le (by omega)] at hall
  refine jy b0' b3 b4 c1 hl1 ?_
  refine xL ?_
  refine dS b0' b3 b4 ?_
  refine dG ?_
  exact ⟨⟨_, rfl, by omega, by omega, fun h => ⟨(by show _ ≤ 1000; omega), hall⟩⟩, k1⟩
theorem uD {σ : AW} (nm : ByteArray) : C Tryz.prog 9 [.slice (some ⟨σ.next, 0, none⟩) 1 2] (σ.push ⟨1, 9, 1, [.string nm]⟩) fun v σ' => (∃ w : Int, v = .int .i64 w ∧ 1 ≤ w ∧ w ≤ 1000 ∧ (w < 1000 → SS b0 nm)) ∧ Kp (σ.push ⟨1, 9, 1, [.string nm]⟩) σ' := by
 have hl1 : ∀ τ, fF Tryz.prog τ 38 (.slice (some ⟨σ.next, 0, none⟩) 1 2) = some (.int .i64 ((1 : Nat) : Int)) := fun τ => KL τ _ _ _
 have hel : bU Tryz.prog 9 ⟨σ.next, 0, none⟩ 1 (0 : Int) = some (.pointer (some ⟨σ.next, 0, none⟩)) := (vP (P := Tryz.prog) (a := ⟨σ.next, 0, none⟩) Bq (j := 0) (len := 1) (by decide)).trans rfl
 have hadd : aT .add (.int .i64 0) (.int .i64 1) = some (.int .i64 1) := rfl
 obtain ⟨τ, hτ, hg⟩ : ∃ τ, τ = σ.push ⟨1, 9, 1, [.string nm]⟩ ∧ τ.get σ.next = ⟨1, 9, 1, [.string nm]⟩ := ⟨_, rfl, aA⟩
 rw [← hτ]
 have hr1 : ∀ q, rowOf τ ⟨σ.next, q, none⟩ = some [.string nm] := fun q => G9 hg
 refine pK Tryz.func9 Tryz.ntmps9 Tryz.results9 fun A hz a0 => ?_
 refine jR a0 ?_
 apply dB
 apply nY
 by_cases hss : 1200 < nm.size
 ·have c3 : decide ((1200 : Int) < (nm.size : Int)) = true := by simp only [decide_eq_true_eq]; omega
  refine aa9 hr1 a0 hl1 hel hadd c3 (show decide ((0 : Int) < ((1 : Nat) : Int)) = true from rfl) (show decide ((0 : Int) < 1000) = true from rfl) ?_
  refine dG ?_
  exact ⟨⟨1000, rfl, by decide, by decide, fun h => absurd h (by decide)⟩, Kp.refl _⟩
 ·have c3 : decide ((1200 : Int) < (nm.size : Int)) = false := by simp only [decide_eq_false_iff_not]; omega
  refine aa9 hr1 a0 hl1 hel hadd c3 (show decide ((0 : Int) < ((1 : Nat) : Int)) = true from rfl) (show decide ((0 : Int) < 1000) = true from rfl) ?_
  apply nY
  refine dS a0 hl1 (show decide ((1 : Int) < ((1 : Nat) : Int)) = false from rfl) ?_
  refine xL ?_
  refine iO ?_
  refine dG ?_
  exact ⟨⟨1, rfl, by decide, by decide, fun _ => (by show _ ≤ 1200; omega)⟩, Kp.refl _⟩
def KV (p : Tr) : Prop := ∃ nm k ty, p = .agg ⟨[.string nm, .int k ty]⟩
theorem agZ {p : Tr} (h : KV p) : ShT 2 p := by
 obtain ⟨nm, k, ty, rfl⟩ := h
 exact ⟨_, rfl, rfl, fun q hq => by
  simp only [List.mem_cons, List.not_mem_nil, or_false] at hq
  rcases hq with rfl | rfl
  ·exact .inr (.inr (.inl ⟨_, rfl⟩))
  ·exact .inr (.inl ⟨_, _, rfl⟩)⟩
theorem xO {l : List Tr} (hL : ∀ p ∈ l, KV p) (hll : l.length ≤ 9223372036854775807) {v : Value} {σ : AW} (hx : bW (sl 2 l) v σ) : Wgh 7 [v] σ 0 (LL b0 (fun _ => True) l) := by
 obtain ⟨va, vc, rfl⟩ := aG hx
 have ab1 : ∀ p ∈ l, ShT 2 p := fun p hp => agZ (hL p hp)
 have K0 := Kp.refl σ
 have hd1 : True := trivial
 unfold Wgh
 refine pK Tryz.func7 Tryz.ntmps7 Tryz.results7 fun A hz a0 => ?_
 refine gC1 a0 ?_
 refine uz (fun B σ1 => ∃ M : Int, B.size = 26 ∧ B.get 0 = some (.slice va l.length vc) ∧ B.get 3 = some (.int .i64 M) ∧ Kp σ σ1 ∧ True ∧ True ∧ 0 ≤ M ∧ M ≤ 100000 ∧ (M < 1000 → (True) ∧ LL b0 (fun _ => True) l)) ?_ ?_
 ·apply b_k
  refine dB (dI (fun mz B σ1 => ∃ (j : Nat) (M : Int), j ≤ l.length ∧ mz = l.length - j ∧ B.size = 26 ∧ B.get 0 = some (.slice va l.length vc) ∧ B.get 3 = some (.int .i64 M) ∧ B.get 4 = some (.int .i64 (j : Int)) ∧ Kp σ σ1 ∧ True ∧ True ∧ (j : Int) + 0 ≤ M ∧ M ≤ 100000 ∧ (M < 1000 → (True) ∧ ∀ p ∈ l.take j, (fun _ => True) p)) ?_ (m := l.length) (by refine' ⟨0, 0, Nat.zero_le _, rfl, ?_, ?_, ?_, ?_, K0, trivial, trivial, by have := (show (0 : Int) ≤ 0 by decide); omega, by decide, fun h => ⟨(fun (_ : (0 : Int) < 1000) => True.intro) h, by simp⟩⟩; any_goals (first | exact aU a0 | fail)))
  rintro mz B τ ⟨j, M, hj, rfl, hz, b0', bm, bc, k1, g1, sG, hM0, hM1, hM2⟩
  have hl1 : ∀ τ, fF Tryz.prog τ 22 (.slice va l.length vc) = some (.int .i64 l.length) := fun τ => Z7 τ _ _ _
  by_cases hjl : j < l.length
  ·have c1 : decide ((j : Int) < (l.length : Int)) = true := by simp [hjl]
   by_cases nO : M < 1000
   ·have c2 : decide (M < 1000) = true := decide_eq_true nO
    obtain ⟨bb, o, qq, c, cs, lv, e, hrow, hel, htk, hx1, hl, ho⟩ := kG (bW.kp hx k1) aag (j := (j : Int)) rfl hjl (ab1 _ (List.getElem_mem _))
    injection e with e1 _ _
    subst e1
    have hr1 := hrow _ (Kp.refl _)
    have hadd : aT .add (.int .i64 (j : Int)) (.int .i64 1) = some (.int .i64 ((j + 1 : Nat) : Int)) := by rw [aH (by omega) (by omega)]; rfl
    obtain ⟨nm, kk, ty, hpn⟩ := hL _ (List.getElem_mem hjl)
    obtain ⟨u1, u2, elv, x1, x2⟩ : ∃ u1 u2, (Value.agg ⟨lv⟩) = .agg ⟨[u1, u2]⟩ ∧ Rd τ (fun _ => True) (.string nm) u1 ∧ Rd τ (fun _ => True) (.int kk ty) u2 := by
     have h2 : Rd τ (fun _ => True) (.agg ⟨[.string nm, .int kk ty]⟩) (.agg ⟨lv⟩) := hpn ▸ hx1
     obtain ⟨l2, e2, u1, _, e3, h3, u2, _, e4, h4, e5⟩ := jh.1 h2
     subst e5
     subst e4
     subst e3
     exact ⟨u1, u2, e2, h3, h4⟩
    have hu1 := jQ.1 x1
    subst hu1
    have O4 : lv = [.string nm, u2] := by injection elv with h1; injection h1
    subst O4
    have hc0 : cs[qq]? = some (.string nm) := by
     have := congrArg (fun l => l[0]?) htk
     simpa [List.getElem?_take, List.getElem?_drop] using this
    refine iC hr1 b0' bm bc c1 c2 hd1 hel hc0 ?_
    refine aj (aU b0') ?_
    refine C.mono (uD (σ := τ) nm) ?_
    rintro _ σ2 ⟨⟨w, rfl, hw1, hw2, hw3⟩, k2⟩
    replace k2 := ((Kp.refl τ).push _).trans k2
    have hadm : aT .add (.int .i64 M) (.int .i64 w) = some (.int .i64 (M + w)) := aH (by omega) (by omega)
    have hall : (M + w < 1000 → ((fun _ => True) l[j])) → (M + w < 1000 → (True) ∧ ∀ p ∈ l.take (j + 1), (fun _ => True) p) := fun hg h => by
     obtain ⟨hp, ha⟩ := hM2 nO
     refine ⟨hp, fun p hp => ?_⟩
     rw [List.take_add_one, List.getElem?_eq_getElem hjl, List.mem_append] at hp
     rcases hp with hp | hp
     ·exact ha p hp
     ·simp only [Option.toList_some, List.mem_singleton] at hp
      subst hp
      exact hg h
    refine jy b0' bm bc hadm hadd ?_
    exact (by refine' ⟨l.length - (j + 1), by omega, j + 1, M + w, hjl, rfl, ?_, ?_, ?_, ?_, k1.trans k2, trivial, trivial, by push_cast; omega, by omega, hall fun h => trivial⟩; any_goals (first | exact aU b0' | fail))
   ·have c2 : decide (M < 1000) = false := decide_eq_false nO
    refine kR b0' bm bc c1 c2 hl1 ?_
    refine xL ?_
    exact (by refine' ⟨M, ?_, ?_, ?_, k1, g1, sG, by omega, hM1, fun h => absurd h nO⟩; any_goals (first | exact bP b0' bm | fail))
  ·have c1 : decide ((j : Int) < (l.length : Int)) = false := by simp [hjl]
   refine jy b0' bm bc c1 hl1 ?_
   refine xL ?_
   refine ⟨M, (dD), (aU b0'), (aU bm), k1, g1, sG, by omega, hM1, fun h => ?_⟩
   obtain ⟨hp, ha⟩ := hM2 h
   rw [List.take_of_length_le (by omega)] at ha
   exact ⟨hp, (by show _ ≤ 1000; omega), ha⟩
 rintro B Tz ⟨M1, hz, b0', bm, K1, g1, n1, hA1, hB1, Xr⟩
 refine gQ b0' bm ?_
 refine dG ?_
 exact ⟨⟨_, rfl, by split <;> omega, by split <;> omega, fun h => (Xr (by split at h <;> omega)).2⟩, K1⟩
end Go.Proofs.YthogkmcahnkkoaaGreatDoor
