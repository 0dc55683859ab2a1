/- Which queries package unparse takes for right. -/
import Derived.Test.YthogkmcahnkkoaaGreatDoorJ33
namespace Go.Proofs.YthogkmcahnkkoaaGreatDoor
open Go.RowKit
set_option maxRecDepth 10000
set_option linter.unusedSimpArgs false
set_option linter.unusedVariables false
set_option maxHeartbeats 8000000
theorem Ed (a : Nat) : decide (0 < a) = decide ((0 : Int) < (a : Int)) := by
 by_cases h : 0 < a
 ·rw [decide_eq_true h, decide_eq_true (by omega)]
 ·rw [decide_eq_false h, decide_eq_false (by omega)]
theorem pV {σ : AW} {w c e z : Nat} {vs : List Value} {ls : List (List Tr)} {R : Tr → Bool} (hlen : ls.length ≤ 1000000) (hw : σ.get w = ⟨1, e, z, vs⟩) (hv : nG σ (fun _ => True) (ls.map (sl 6)) vs) (hl : ∀ l ∈ ls, l.length ≤ 4611686018427387904) (hs : ∀ l ∈ ls, ∀ p ∈ l, ShT 6 p) (hf : ∀ l ∈ ls, ∀ p ∈ l, ∀ x, bV (bW p x) 21 [x] (R p)) (hwn : w < σ.next) :
  C Tryz.prog 51 [.slice (some ⟨w, 0, none⟩) ls.length c] σ fun v σ' => v = .bool (ls.all fun l => l.all R) ∧ Kp σ σ' := by
 have l1 : ∀ τ, fF Tryz.prog τ 135 (.slice (some ⟨w, 0, none⟩) ls.length c) = some (.int .i64 ls.length) := fun τ => U4 τ _ _ c
 have hvl : ls.length = vs.length := by have := hv.length; rw [List.length_map] at this; exact this.symm
 refine pK Tryz.func51 Tryz.ntmps51 Tryz.results51 fun A hz a0 => ?_
 refine gQ a0 l1 ?_
 refine dB (dI (fun m B σ1 => ∃ j, j ≤ ls.length ∧ m = ls.length - j ∧ B.size = 15 ∧ B.get 5 = some (.slice (some ⟨w, 0, none⟩) ls.length c) ∧ B.get 6 = some (.int .i64 (ls.length : Int)) ∧ B.get 7 = some (.int .i64 (j : Int)) ∧ Kp σ σ1 ∧ ((ls.take j).all fun l => l.all R) = true) ?_ (m := ls.length) (by refine' ⟨0, Nat.zero_le _, rfl, ?_, ?_, ?_, ?_, Kp.refl σ, rfl⟩; any_goals (first | exact dD | fail)))
 rintro m B σ1 ⟨j, hj, rfl, hz, b5, b6, b7, k1, hall⟩
 by_cases hlt : j < ls.length
 ·have c1 : decide ((j : Int) < (ls.length : Int)) = true := by simp [hlt]
  have hp := List.getElem_mem hlt
  have hw1 := (k1.get w hwn).trans hw
  have hel : bU Tryz.prog 39 ⟨w, 0, none⟩ ls.length (j : Int) = some (.pointer (some ⟨w, j, none⟩)) := by
   have := vP (P := Tryz.prog) (a := ⟨w, 0, none⟩) PS hlt
   rw [this, je, Nat.zero_add, Nat.mul_one]
  have hr1 : ∀ q, rowOf σ1 ⟨w, q, none⟩ = _ := fun q => G9 hw1
  have hx : bW (sl 6 ls[j]) (vs[j]'(by omega)) σ := by
   have := hv.at (i := j) (by rw [List.length_map]; exact hlt) (by omega)
   rw [List.getElem_map] at this
   exact this
  have hcs : vs[j]? = some (vs[j]'(by omega)) := List.getElem?_eq_getElem _
  have hadd : aT .add (.int .i64 (j : Int)) (.int .i64 1) = some (.int .i64 ((j + 1 : Nat) : Int)) := by rw [aH (by omega) (by omega)]; rfl
  refine Ve hr1 b5 b6 b7 c1 hel hcs ?_
  refine aj (aU b5) ?_
  refine C.mono (MH (R := R) (fs := []) (cs := []) (hl _ hp) (hs _ hp) (fun p hq x => hf _ hp p hq x) _ (bW.kp hx k1)) ?_
  rintro _ σ2 ⟨rfl, k2⟩
  cases hR : ls[j].all R with
  | true =>
   refine dV b5 b6 b7 hadd ?_
   refine ⟨ls.length - (j + 1), by omega, j + 1, hlt, rfl, (dD), (aU b5), (aU b6), (dD), k1.trans k2, ?_⟩
   rw [List.take_add_one, List.getElem?_eq_getElem hlt, List.all_append, hall]
   simp only [Option.toList_some, List.all_cons, List.all_nil, hR, Bool.and_self]
  | false =>
   refine dS b5 b6 b7 ?_
   refine dG ?_
   refine ⟨?_, k1.trans k2⟩
   have : (ls.all fun l => l.all R) = false := by
    by_cases c : (ls.all fun l => l.all R) = true
    ·rw [List.all_eq_true] at c
     have := c _ hp
     rw [hR] at this
     cases this
    ·exact Bool.eq_false_iff.2 c
   rw [this]
 ·have c1 : decide ((j : Int) < (ls.length : Int)) = false := by simp [hlt]
  rw [List.take_of_length_le (by omega)] at hall
  refine dV b5 b6 b7 c1 ?_
  refine xL ?_
  refine iO ?_
  refine dG ?_
  exact ⟨by rw [hall], k1⟩
theorem Tv {T : ByteArray → Bool} {m : Nat} (hE : ∀ p, (bT b0 m).e p → ∀ x, bV (bW p x) 21 [x] ((eP T m).e p)) (hQ : ∀ p, (bT b0 m).q p → ∀ x, bV (bW p x) 53 [x] ((eP T m).q p)) (hF : ∀ p, (bT b0 m).f p → ∀ x, bV (bW p x) 131 [x] ((eP T m).f p)) {k n : Int} {di : Bool} {items froms wh gr ha or kids : List Tr} (Qv : LL b0 (KI b0 (bT b0 m).e) items) (hlf : LL b0 (bT b0 m).f froms) (XR : LL b0 (bT b0 m).e wh) (Y7 : LL b0 (bT b0 m).e gr) (hlh : LL b0 (bT b0 m).e ha) (hlo : LL b0 (KK (bT b0 m).e) or) (hlk : LL b0 (bT b0 m).q kids) {x : Value} :
  bV (bW (DL k di n items froms wh gr ha or kids) x) 91 [x] (dY (eP T m) n items froms wh gr ha or kids) := by
 intro σ hx
 obtain ⟨v1, v2, v3, v4, v5, v6, v7, rfl, r1, r2, r3, r4, r5, r6, r7⟩ := Jw hx
 obtain ⟨a1, jA, rfl⟩ := aG r1
 obtain ⟨a2, jc, rfl⟩ := aG r2
 obtain ⟨a3, jT, rfl⟩ := aG r3
 obtain ⟨a4, mF, rfl⟩ := aG r4
 obtain ⟨a5, mX, rfl⟩ := aG r5
 obtain ⟨a6, ng, rfl⟩ := aG r6
 obtain ⟨a7, zy, rfl⟩ := aG r7
 have i1 : items.length ≤ 1000 := Qv.1
 have i2 : froms.length ≤ 1000 := hlf.1
 have i3 : wh.length ≤ 1000 := XR.1
 have i4 : gr.length ≤ 1000 := Y7.1
 have i5 : ha.length ≤ 1000 := hlh.1
 have i6 : or.length ≤ 1000 := hlo.1
 have i7 : kids.length ≤ 1000 := hlk.1
 refine pK Tryz.func91 Tryz.ntmps91 Tryz.results91 fun A hz a0 => ?_
 have hts : ∀ h : 39 < Tryz.prog.types.size, (Tryz.prog.types[39]'h).size = 1 := fun h => by kernel_rfl
 refine dS a0 hts @Nat.mul_one ?_
 obtain ⟨τ, hτ, kp, gN, gM, nx⟩ : ∃ τ, τ = (((σ.push ⟨1, 61, 0, [.int .i64 k, .bool di, .slice a1 items.length jA, .slice a2 froms.length jc, .slice a3 wh.length jT, .slice a4 gr.length mF, .slice a5 ha.length mX, .slice a6 or.length ng, .int .i64 n, .slice a7 kids.length zy]⟩).push ⟨1, 145, 0, [.slice none 0 0, .slice none 0 0, .slice none 0 0]⟩).set (σ.next + 1) ⟨1, 145, 0, [.slice a3 wh.length jT, .slice a4 gr.length mF, .slice a5 ha.length mX]⟩) ∧ Kp σ τ ∧ τ.get σ.next = ⟨1, 61, 0, [.int .i64 k, .bool di, .slice a1 items.length jA, .slice a2 froms.length jc, .slice a3 wh.length jT, .slice a4 gr.length mF, .slice a5 ha.length mX, .slice a6 or.length ng, .int .i64 n, .slice a7 kids.length zy]⟩ ∧ τ.get (σ.next + 1) = ⟨1, 145, 0, [.slice a3 wh.length jT, .slice a4 gr.length mF, .slice a5 ha.length mX]⟩ ∧ τ.next = σ.next + 2 := ⟨_, rfl, (((Kp.refl σ).push _).push _).set (by omega) _, (dD), bF, rfl⟩
 rw [← hτ]
 clear hτ
 have z1 : ∀ l ∈ [wh, gr, ha], l.length ≤ 4611686018427387904 := fun l hl => by
  simp only [List.mem_cons, List.not_mem_nil, or_false] at hl
  rcases hl with rfl | rfl | rfl <;> omega
 have zz3 : ∀ l ∈ [wh, gr, ha], ∀ p ∈ l, (bT b0 m).e p := fun l hl p hp => by
  simp only [List.mem_cons, List.not_mem_nil, or_false] at hl
  rcases hl with rfl | rfl | rfl
  ·exact XR.2 p hp
  ·exact Y7.2 p hp
  ·exact hlh.2 p hp
 have z2 : ∀ l ∈ [wh, gr, ha], ∀ p ∈ l, ShT 6 p := fun l hl p hp => tN (zz3 l hl p hp)
 have z3 : ∀ l ∈ [wh, gr, ha], ∀ p ∈ l, ∀ x, bV (bW p x) 21 [x] ((eP T m).e p) := fun l hl p hp x => hE p (zz3 l hl p hp) x
 cases c1 : ((kids.length : Int) == 0) with
 | false =>
  have d1 : (kids.length == 0) = false := by rw [← c1]; exact dK _ _
  refine dV a0 gN gM c1 ?_
  refine fQ a0 ?_
  exact ⟨by simp [dY, d1], kp⟩
 | true =>
  have d1 : (kids.length == 0) = true := by rw [← c1]; exact dK _ _
  cases c2 : (decide ((0 : Int) < (items.length : Int))) with
  | false =>
   have d2 : decide (0 < items.length) = false := by rw [← c2]; exact Ed _
   refine jy a0 gN gM c1 c2 ?_
   refine fQ a0 ?_
   exact ⟨by simp [dY, d1, d2], kp⟩
  | true =>
   have d2 : decide (0 < items.length) = true := by rw [← c2]; exact Ed _
   refine jy a0 gN gM c1 c2 ?_
   refine aj (aU a0) ?_
   have q3 : ∀ B, Kp σ (τ.push B) := fun B => kp.push B
   refine C.mono (rY (n := 1) (l := [froms.length, wh.length, ha.length]) (show 3 ≤ 1000 by decide) aA) ?_
   rintro _ σ3 ⟨rfl, k3⟩
   have n3 := k3.next
   (try simp only [ah, au] at n3)
   have K3 := (q3 _).trans k3
   have Gx := (k3.get (σ.next) (by first | omega | (simp only [ah]; omega))).trans ((aC (by first | omega | (simp only [ah]; omega))).trans gN)
   have Gy := (k3.get (σ.next + 1) (by first | omega | (simp only [ah]; omega))).trans ((aC (by first | omega | (simp only [ah]; omega))).trans gM)
   cases c3 : (kS 1 [froms.length, wh.length, ha.length]) with
   | false =>
    refine kR a0 Gx Gy c1 c2 c3 ?_
    refine fQ a0 ?_
    exact ⟨by simp [dY, d1, d2, c3], K3⟩
   | true =>
    cases c4 : ((ha.length : Int) == 0) with
    | true =>
     have d4 : (ha.length == 0) = true := by rw [← c4]; exact dK _ _
     cases c5 : (n == -1) with
     | true =>
      refine aY a0 Gx Gy c1 c2 c3 c4 c5 ?_
      refine aj (aU a0) ?_
      refine C.mono (AL (R := wE (eP T m)) (fs := []) (cs := []) (by omega) (Tn Qv.2) (fun p hp x => Ec hE (Qv.2 p hp)) _ (bW.kp r1 K3)) ?_
      rintro _ σ6 ⟨rfl, k6⟩
      have n6 := k6.next
      (try simp only [ah, au] at n6)
      have K6 := K3.trans k6
      have iY := (k6.get (σ.next) (by first | omega | (simp only [ah]; omega))).trans (Gx)
      have iZ := (k6.get (σ.next + 1) (by first | omega | (simp only [ah]; omega))).trans (Gy)
      cases c6 : (items.all (wE (eP T m))) with
      | false =>
       refine aY a0 iY iZ c1 c2 c3 c4 (cJ c5 c6) ?_
       refine fQ a0 ?_
       exact ⟨by simp [dY, d1, d2, c3, d4, c5, c6], K6⟩
      | true =>
       refine aY a0 iY iZ c1 c2 c3 c4 (cJ c5 c6) ?_
       refine aj (aU a0) ?_
       refine C.mono (vw (R := (eP T m).f) (fs := []) (cs := []) (by omega) (fun p hp => wF (hlf.2 p hp)) (fun p hp x => hF p (hlf.2 p hp) x) _ (bW.kp r2 K6)) ?_
       rintro _ σ7 ⟨rfl, k7⟩
       have n7 := k7.next
       (try simp only [ah, au] at n7)
       have K7 := K6.trans k7
       have iK := (k7.get (σ.next) (by first | omega | (simp only [ah]; omega))).trans (iY)
       have iI := (k7.get (σ.next + 1) (by first | omega | (simp only [ah]; omega))).trans (iZ)
       cases c7 : (froms.all (eP T m).f) with
       | false =>
        refine aY a0 iK iI c1 c2 c3 c4 (cJ c5 (cJ c6 c7)) ?_
        refine fQ a0 ?_
        exact ⟨by simp [dY, d1, d2, c3, d4, c5, c6, c7], K7⟩
       | true =>
        refine aY a0 iK iI c1 c2 c3 c4 (cJ c5 (cJ c6 c7)) ?_
        refine aj (aU a0) ?_
        refine C.mono (pV (ls := [wh, gr, ha]) (R := (eP T m).e) (show 3 ≤ 1000000 by decide) iI ⟨_, _, rfl, bW.kp r3 K7, _, _, rfl, bW.kp r4 K7, _, _, rfl, bW.kp r5 K7, rfl⟩ z1 z2 z3 (by omega)) ?_
        rintro _ σ8 ⟨rfl, k8⟩
        have n8 := k8.next
        (try simp only [ah, au] at n8)
        have K8 := K7.trans k8
        have jM := (k8.get (σ.next) (by first | omega | (simp only [ah]; omega))).trans (iK)
        have jB := (k8.get (σ.next + 1) (by first | omega | (simp only [ah]; omega))).trans (iI)
        cases c8 : ([wh, gr, ha].all fun l => l.all (eP T m).e) with
        | false =>
         refine aY a0 jM jB c1 c2 c3 c4 (cJ c5 (cJ c6 (cJ c7 c8))) ?_
         refine fQ a0 ?_
         exact ⟨by simp [dY, d1, d2, c3, d4, c5, c6, c7, c8], K8⟩
        | true =>
         refine aY a0 jM jB c1 c2 c3 c4 (cJ c5 (cJ c6 (cJ c7 c8))) ?_
         refine aj (aU a0) ?_
         refine C.mono (AO (R := MG (eP T m)) (fs := []) (cs := []) (by omega) (Tq hlo.2) (fun p hp x => JB hE (hlo.2 p hp)) _ (bW.kp r6 K8)) ?_
         rintro _ σ9 ⟨rfl, k9⟩
         have n9 := k9.next
         (try simp only [ah, au] at n9)
         have K9 := K8.trans k9
         have mD := (k9.get (σ.next) (by first | omega | (simp only [ah]; omega))).trans (jM)
         have lQ := (k9.get (σ.next + 1) (by first | omega | (simp only [ah]; omega))).trans (jB)
         refine aY a0 mD lQ c1 c2 c3 c4 (cJ c5 (cJ c6 (cJ c7 c8))) ?_
         refine fQ a0 ?_
         exact ⟨by simp [dY, d1, d2, c3, d4, c5, c6, c7, c8], K9⟩
     | false =>
      refine aY a0 Gx Gy c1 c2 c3 c4 c5 ?_
      refine aj (aU a0) ?_
      refine C.mono (OT n _ trivial) ?_
      rintro _ σ6 ⟨rfl, k6⟩
      have n6 := k6.next
      (try simp only [ah, au] at n6)
      have K6 := K3.trans k6
      have iY := (k6.get (σ.next) (by first | omega | (simp only [ah]; omega))).trans (Gx)
      have iZ := (k6.get (σ.next + 1) (by first | omega | (simp only [ah]; omega))).trans (Gy)
      cases c6 : (MC n) with
      | false =>
       refine aY a0 iY iZ c1 c2 c3 c4 (cJ c5 c6) ?_
       refine fQ a0 ?_
       exact ⟨by simp [dY, d1, d2, c3, d4, c5, c6], K6⟩
      | true =>
       refine aY a0 iY iZ c1 c2 c3 c4 (cJ c5 c6) ?_
       refine aj (aU a0) ?_
       refine C.mono (AL (R := wE (eP T m)) (fs := []) (cs := []) (by omega) (Tn Qv.2) (fun p hp x => Ec hE (Qv.2 p hp)) _ (bW.kp r1 K6)) ?_
       rintro _ σ7 ⟨rfl, k7⟩
       have n7 := k7.next
       (try simp only [ah, au] at n7)
       have K7 := K6.trans k7
       have iK := (k7.get (σ.next) (by first | omega | (simp only [ah]; omega))).trans (iY)
       have iI := (k7.get (σ.next + 1) (by first | omega | (simp only [ah]; omega))).trans (iZ)
       cases c7 : (items.all (wE (eP T m))) with
       | false =>
        refine aY a0 iK iI c1 c2 c3 c4 (cJ c5 (cJ c6 c7)) ?_
        refine fQ a0 ?_
        exact ⟨by simp [dY, d1, d2, c3, d4, c5, c6, c7], K7⟩
       | true =>
        refine aY a0 iK iI c1 c2 c3 c4 (cJ c5 (cJ c6 c7)) ?_
        refine aj (aU a0) ?_
        refine C.mono (vw (R := (eP T m).f) (fs := []) (cs := []) (by omega) (fun p hp => wF (hlf.2 p hp)) (fun p hp x => hF p (hlf.2 p hp) x) _ (bW.kp r2 K7)) ?_
        rintro _ σ8 ⟨rfl, k8⟩
        have n8 := k8.next
        (try simp only [ah, au] at n8)
        have K8 := K7.trans k8
        have jM := (k8.get (σ.next) (by first | omega | (simp only [ah]; omega))).trans (iK)
        have jB := (k8.get (σ.next + 1) (by first | omega | (simp only [ah]; omega))).trans (iI)
        cases c8 : (froms.all (eP T m).f) with
        | false =>
         refine aY a0 jM jB c1 c2 c3 c4 (cJ c5 (cJ c6 (cJ c7 c8))) ?_
         refine fQ a0 ?_
         exact ⟨by simp [dY, d1, d2, c3, d4, c5, c6, c7, c8], K8⟩
        | true =>
         refine aY a0 jM jB c1 c2 c3 c4 (cJ c5 (cJ c6 (cJ c7 c8))) ?_
         refine aj (aU a0) ?_
         refine C.mono (pV (ls := [wh, gr, ha]) (R := (eP T m).e) (show 3 ≤ 1000000 by decide) jB ⟨_, _, rfl, bW.kp r3 K8, _, _, rfl, bW.kp r4 K8, _, _, rfl, bW.kp r5 K8, rfl⟩ z1 z2 z3 (by omega)) ?_
         rintro _ σ9 ⟨rfl, k9⟩
         have n9 := k9.next
         (try simp only [ah, au] at n9)
         have K9 := K8.trans k9
         have mD := (k9.get (σ.next) (by first | omega | (simp only [ah]; omega))).trans (jM)
         have lQ := (k9.get (σ.next + 1) (by first | omega | (simp only [ah]; omega))).trans (jB)
         cases c9 : ([wh, gr, ha].all fun l => l.all (eP T m).e) with
         | false =>
          refine aY a0 mD lQ c1 c2 c3 c4 (cJ c5 (cJ c6 (cJ c7 (cJ c8 c9)))) ?_
          refine fQ a0 ?_
          exact ⟨by simp [dY, d1, d2, c3, d4, c5, c6, c7, c8, c9], K9⟩
         | true =>
          refine aY a0 mD lQ c1 c2 c3 c4 (cJ c5 (cJ c6 (cJ c7 (cJ c8 c9)))) ?_
          refine aj (aU a0) ?_
          refine C.mono (AO (R := MG (eP T m)) (fs := []) (cs := []) (by omega) (Tq hlo.2) (fun p hp x => JB hE (hlo.2 p hp)) _ (bW.kp r6 K9)) ?_
          rintro _ abT ⟨rfl, k10⟩
          have n10 := k10.next
          (try simp only [ah, au] at n10)
          have K10 := K9.trans k10
          have tV := (k10.get (σ.next) (by first | omega | (simp only [ah]; omega))).trans (mD)
          have tX := (k10.get (σ.next + 1) (by first | omega | (simp only [ah]; omega))).trans (lQ)
          refine aY a0 tV tX c1 c2 c3 c4 (cJ c5 (cJ c6 (cJ c7 (cJ c8 c9)))) ?_
          refine fQ a0 ?_
          exact ⟨by simp [dY, d1, d2, c3, d4, c5, c6, c7, c8, c9], K10⟩
    | false =>
     have d4 : (ha.length == 0) = false := by rw [← c4]; exact dK _ _
     cases c5 : (decide ((0 : Int) < (gr.length : Int))) with
     | false =>
      have d5 : decide (0 < gr.length) = false := by rw [← c5]; exact Ed _
      refine aY a0 Gx Gy c1 c2 c3 c4 c5 ?_
      refine fQ a0 ?_
      exact ⟨by simp [dY, d1, d2, c3, d4, d5], K3⟩
     | true =>
      have d5 : decide (0 < gr.length) = true := by rw [← c5]; exact Ed _
      cases c6 : (n == -1) with
      | true =>
       refine aY a0 Gx Gy c1 c2 c3 c4 (cJ c5 c6) ?_
       refine aj (aU a0) ?_
       refine C.mono (AL (R := wE (eP T m)) (fs := []) (cs := []) (by omega) (Tn Qv.2) (fun p hp x => Ec hE (Qv.2 p hp)) _ (bW.kp r1 K3)) ?_
       rintro _ σ7 ⟨rfl, k7⟩
       have n7 := k7.next
       (try simp only [ah, au] at n7)
       have K7 := K3.trans k7
       have iK := (k7.get (σ.next) (by first | omega | (simp only [ah]; omega))).trans (Gx)
       have iI := (k7.get (σ.next + 1) (by first | omega | (simp only [ah]; omega))).trans (Gy)
       cases c7 : (items.all (wE (eP T m))) with
       | false =>
        refine aY a0 iK iI c1 c2 c3 c4 (cJ c5 (cJ c6 c7)) ?_
        refine fQ a0 ?_
        exact ⟨by simp [dY, d1, d2, c3, d4, d5, c6, c7], K7⟩
       | true =>
        refine aY a0 iK iI c1 c2 c3 c4 (cJ c5 (cJ c6 c7)) ?_
        refine aj (aU a0) ?_
        refine C.mono (vw (R := (eP T m).f) (fs := []) (cs := []) (by omega) (fun p hp => wF (hlf.2 p hp)) (fun p hp x => hF p (hlf.2 p hp) x) _ (bW.kp r2 K7)) ?_
        rintro _ σ8 ⟨rfl, k8⟩
        have n8 := k8.next
        (try simp only [ah, au] at n8)
        have K8 := K7.trans k8
        have jM := (k8.get (σ.next) (by first | omega | (simp only [ah]; omega))).trans (iK)
        have jB := (k8.get (σ.next + 1) (by first | omega | (simp only [ah]; omega))).trans (iI)
        cases c8 : (froms.all (eP T m).f) with
        | false =>
         refine aY a0 jM jB c1 c2 c3 c4 (cJ c5 (cJ c6 (cJ c7 c8))) ?_
         refine fQ a0 ?_
         exact ⟨by simp [dY, d1, d2, c3, d4, d5, c6, c7, c8], K8⟩
        | true =>
         refine aY a0 jM jB c1 c2 c3 c4 (cJ c5 (cJ c6 (cJ c7 c8))) ?_
         refine aj (aU a0) ?_
         refine C.mono (pV (ls := [wh, gr, ha]) (R := (eP T m).e) (show 3 ≤ 1000000 by decide) jB ⟨_, _, rfl, bW.kp r3 K8, _, _, rfl, bW.kp r4 K8, _, _, rfl, bW.kp r5 K8, rfl⟩ z1 z2 z3 (by omega)) ?_
         rintro _ σ9 ⟨rfl, k9⟩
         have n9 := k9.next
         (try simp only [ah, au] at n9)
         have K9 := K8.trans k9
         have mD := (k9.get (σ.next) (by first | omega | (simp only [ah]; omega))).trans (jM)
         have lQ := (k9.get (σ.next + 1) (by first | omega | (simp only [ah]; omega))).trans (jB)
         cases c9 : ([wh, gr, ha].all fun l => l.all (eP T m).e) with
         | false =>
          refine aY a0 mD lQ c1 c2 c3 c4 (cJ c5 (cJ c6 (cJ c7 (cJ c8 c9)))) ?_
          refine fQ a0 ?_
          exact ⟨by simp [dY, d1, d2, c3, d4, d5, c6, c7, c8, c9], K9⟩
         | true =>
          refine aY a0 mD lQ c1 c2 c3 c4 (cJ c5 (cJ c6 (cJ c7 (cJ c8 c9)))) ?_
          refine aj (aU a0) ?_
          refine C.mono (AO (R := MG (eP T m)) (fs := []) (cs := []) (by omega) (Tq hlo.2) (fun p hp x => JB hE (hlo.2 p hp)) _ (bW.kp r6 K9)) ?_
          rintro _ abT ⟨rfl, k10⟩
          have n10 := k10.next
          (try simp only [ah, au] at n10)
          have K10 := K9.trans k10
          have tV := (k10.get (σ.next) (by first | omega | (simp only [ah]; omega))).trans (mD)
          have tX := (k10.get (σ.next + 1) (by first | omega | (simp only [ah]; omega))).trans (lQ)
          refine aY a0 tV tX c1 c2 c3 c4 (cJ c5 (cJ c6 (cJ c7 (cJ c8 c9)))) ?_
          refine fQ a0 ?_
          exact ⟨by simp [dY, d1, d2, c3, d4, d5, c6, c7, c8, c9], K10⟩
      | false =>
       refine aY a0 Gx Gy c1 c2 c3 c4 (cJ c5 c6) ?_
       refine aj (aU a0) ?_
       refine C.mono (OT n _ trivial) ?_
       rintro _ σ7 ⟨rfl, k7⟩
       have n7 := k7.next
       (try simp only [ah, au] at n7)
       have K7 := K3.trans k7
       have iK := (k7.get (σ.next) (by first | omega | (simp only [ah]; omega))).trans (Gx)
       have iI := (k7.get (σ.next + 1) (by first | omega | (simp only [ah]; omega))).trans (Gy)
       cases c7 : (MC n) with
       | false =>
        refine aY a0 iK iI c1 c2 c3 c4 (cJ c5 (cJ c6 c7)) ?_
        refine fQ a0 ?_
        exact ⟨by simp [dY, d1, d2, c3, d4, d5, c6, c7], K7⟩
       | true =>
        refine aY a0 iK iI c1 c2 c3 c4 (cJ c5 (cJ c6 c7)) ?_
        refine aj (aU a0) ?_
        refine C.mono (AL (R := wE (eP T m)) (fs := []) (cs := []) (by omega) (Tn Qv.2) (fun p hp x => Ec hE (Qv.2 p hp)) _ (bW.kp r1 K7)) ?_
        rintro _ σ8 ⟨rfl, k8⟩
        have n8 := k8.next
        (try simp only [ah, au] at n8)
        have K8 := K7.trans k8
        have jM := (k8.get (σ.next) (by first | omega | (simp only [ah]; omega))).trans (iK)
        have jB := (k8.get (σ.next + 1) (by first | omega | (simp only [ah]; omega))).trans (iI)
        cases c8 : (items.all (wE (eP T m))) with
        | false =>
         refine aY a0 jM jB c1 c2 c3 c4 (cJ c5 (cJ c6 (cJ c7 c8))) ?_
         refine fQ a0 ?_
         exact ⟨by simp [dY, d1, d2, c3, d4, d5, c6, c7, c8], K8⟩
        | true =>
         refine aY a0 jM jB c1 c2 c3 c4 (cJ c5 (cJ c6 (cJ c7 c8))) ?_
         refine aj (aU a0) ?_
         refine C.mono (vw (R := (eP T m).f) (fs := []) (cs := []) (by omega) (fun p hp => wF (hlf.2 p hp)) (fun p hp x => hF p (hlf.2 p hp) x) _ (bW.kp r2 K8)) ?_
         rintro _ σ9 ⟨rfl, k9⟩
         have n9 := k9.next
         (try simp only [ah, au] at n9)
         have K9 := K8.trans k9
         have mD := (k9.get (σ.next) (by first | omega | (simp only [ah]; omega))).trans (jM)
         have lQ := (k9.get (σ.next + 1) (by first | omega | (simp only [ah]; omega))).trans (jB)
         cases c9 : (froms.all (eP T m).f) with
         | false =>
          refine aY a0 mD lQ c1 c2 c3 c4 (cJ c5 (cJ c6 (cJ c7 (cJ c8 c9)))) ?_
          refine fQ a0 ?_
          exact ⟨by simp [dY, d1, d2, c3, d4, d5, c6, c7, c8, c9], K9⟩
         | true =>
          refine aY a0 mD lQ c1 c2 c3 c4 (cJ c5 (cJ c6 (cJ c7 (cJ c8 c9)))) ?_
          refine aj (aU a0) ?_
          refine C.mono (pV (ls := [wh, gr, ha]) (R := (eP T m).e) (show 3 ≤ 1000000 by decide) lQ ⟨_, _, rfl, bW.kp r3 K9, _, _, rfl, bW.kp r4 K9, _, _, rfl, bW.kp r5 K9, rfl⟩ z1 z2 z3 (by omega)) ?_
          rintro _ abT ⟨rfl, k10⟩
          have n10 := k10.next
          (try simp only [ah, au] at n10)
          have K10 := K9.trans k10
          have tV := (k10.get (σ.next) (by first | omega | (simp only [ah]; omega))).trans (mD)
          have tX := (k10.get (σ.next + 1) (by first | omega | (simp only [ah]; omega))).trans (lQ)
          cases c10 : ([wh, gr, ha].all fun l => l.all (eP T m).e) with
          | false =>
           refine aY a0 tV tX c1 c2 c3 c4 (cJ c5 (cJ c6 (cJ c7 (cJ c8 (cJ c9 c10))))) ?_
           refine fQ a0 ?_
           exact ⟨by simp [dY, d1, d2, c3, d4, d5, c6, c7, c8, c9, c10], K10⟩
          | true =>
           refine aY a0 tV tX c1 c2 c3 c4 (cJ c5 (cJ c6 (cJ c7 (cJ c8 (cJ c9 c10))))) ?_
           refine aj (aU a0) ?_
           refine C.mono (AO (R := MG (eP T m)) (fs := []) (cs := []) (by omega) (Tq hlo.2) (fun p hp x => JB hE (hlo.2 p hp)) _ (bW.kp r6 K10)) ?_
           rintro _ Tz ⟨rfl, k11⟩
           have n11 := k11.next
           (try simp only [ah, au] at n11)
           have K11 := K10.trans k11
           have aed := (k11.get (σ.next) (by first | omega | (simp only [ah]; omega))).trans (tV)
           have aee := (k11.get (σ.next + 1) (by first | omega | (simp only [ah]; omega))).trans (tX)
           refine aY a0 aed aee c1 c2 c3 c4 (cJ c5 (cJ c6 (cJ c7 (cJ c8 (cJ c9 c10))))) ?_
           refine fQ a0 ?_
           exact ⟨by simp [dY, d1, d2, c3, d4, d5, c6, c7, c8, c9, c10], K11⟩
end Go.Proofs.YthogkmcahnkkoaaGreatDoor
