/- Which queries package unparse takes for right, by kind. -/
import Derived.Test.YthogkmcahnkkoaaGreatDoorJ34
namespace Go.Proofs.YthogkmcahnkkoaaGreatDoor
open Go.RowKit
set_option maxRecDepth 10000
set_option linter.unusedSimpArgs false
set_option linter.unusedVariables false
set_option maxHeartbeats 8000000
theorem Xg {T : ByteArray → Bool} {m : Nat} (hE : ∀ p, (bT b0 m).e p → ∀ x, bV (bW p x) 21 [x] ((eP T m).e p)) (hQ : ∀ p, (bT b0 m).q p → ∀ x, bV (bW p x) 53 [x] ((eP T m).q p)) (hF : ∀ p, (bT b0 m).f p → ∀ x, bV (bW p x) 131 [x] ((eP T m).f p)) {k n : Int} {di : Bool} {items froms wh gr ha or kids : List Tr} (Qv : LL b0 (KI b0 (bT b0 m).e) items) (hlf : LL b0 (bT b0 m).f froms) (XR : LL b0 (bT b0 m).e wh) (Y7 : LL b0 (bT b0 m).e gr) (hlh : LL b0 (bT b0 m).e ha) (hlo : LL b0 (KK (bT b0 m).e) or) (hlk : LL b0 (bT b0 m).q kids) {x : Value} :
  bV (bW (DL k di n items froms wh gr ha or kids) x) 53 [x] (rX (eP T m) k di n items froms wh gr ha or kids) := by
 intro σ hx
 obtain ⟨v1, v2, v3, v4, v5, v6, v7, rfl, r1, r2, r3, r4, r5, r6, r7⟩ := Jw hx
 obtain ⟨a1, jA, rfl⟩ := aG r1
 obtain ⟨a2, jc, rfl⟩ := aG r2
 obtain ⟨a3, jT, rfl⟩ := aG r3
 obtain ⟨a4, mF, rfl⟩ := aG r4
 obtain ⟨a5, mX, rfl⟩ := aG r5
 obtain ⟨a6, ng, rfl⟩ := aG r6
 obtain ⟨a7, zy, rfl⟩ := aG r7
 have i1 : items.length ≤ 1000 := Qv.1
 have i2 : froms.length ≤ 1000 := hlf.1
 have i3 : wh.length ≤ 1000 := XR.1
 have i4 : gr.length ≤ 1000 := Y7.1
 have i5 : ha.length ≤ 1000 := hlh.1
 have i6 : or.length ≤ 1000 := hlo.1
 have i7 : kids.length ≤ 1000 := hlk.1
 refine pK Tryz.func53 Tryz.ntmps53 Tryz.results53 fun A hz a0 => ?_
 have kp : Kp σ (σ.push ⟨1, 61, 0, [.int .i64 k, .bool di, .slice a1 items.length jA, .slice a2 froms.length jc, .slice a3 wh.length jT, .slice a4 gr.length mF, .slice a5 ha.length mX, .slice a6 or.length ng, .int .i64 n, .slice a7 kids.length zy]⟩) := (Kp.refl σ).push _
 by_cases e1 : k = 1
 ·subst e1
  have eR : rX (eP T m) 1 di n items froms wh gr ha or kids = dY (eP T m) n items froms wh gr ha or kids := rfl
  rw [eR]
  refine gQ a0 (eQ 1) ?_
  refine aj (aU a0) ?_
  refine C.mono (Tv hE hQ hF Qv hlf XR Y7 hlh hlo hlk _ (bW.kp (WJ r1 r2 r3 r4 r5 r6 r7) kp)) ?_
  rintro _ σ1 ⟨rfl, k1⟩
  refine iO ?_
  refine dG ?_
  exact ⟨trivial, kp.trans k1⟩
 by_cases e2 : k = 2
 ·subst e2
  have eR : rX (eP T m) 2 di n items froms wh gr ha or kids = (kids.length == 2 && n == -1 && !di && kS 0 [items.length, froms.length, wh.length, gr.length, ha.length, or.length] && kids.all (eP T m).q) := rfl
  rw [eR]
  have gN : (σ.push ⟨1, 61, 0, [.int .i64 2, .bool di, .slice a1 items.length jA, .slice a2 froms.length jc, .slice a3 wh.length jT, .slice a4 gr.length mF, .slice a5 ha.length mX, .slice a6 or.length ng, .int .i64 n, .slice a7 kids.length zy]⟩).get σ.next = ⟨1, 61, 0, [.int .i64 2, .bool di, .slice a1 items.length jA, .slice a2 froms.length jc, .slice a3 wh.length jT, .slice a4 gr.length mF, .slice a5 ha.length mX, .slice a6 or.length ng, .int .i64 n, .slice a7 kids.length zy]⟩ := aA
  cases c1 : ((kids.length : Int) == 2) with
  | false =>
   have d1 : (kids.length == 2) = false := by rw [← c1]; exact dK _ _
   refine jy a0 gN (nQ 2 1) (eQ 2) c1 ?_
   refine fQ a0 ?_
   exact ⟨by simp [d1], kp⟩
  | true =>
   have d1 : (kids.length == 2) = true := by rw [← c1]; exact dK _ _
   cases c2 : (n == -1) with
   | false =>
    refine kR a0 gN (nQ 2 1) (eQ 2) c1 c2 ?_
    refine fQ a0 ?_
    exact ⟨by simp [d1, c2], kp⟩
   | true =>
    cases c3 : (!di) with
    | false =>
     refine nH a0 gN (nQ 2 1) (eQ 2) c1 c2 c3 ?_
     refine fQ a0 ?_
     exact ⟨by simp [d1, c2, c3], kp⟩
    | true =>
     refine nH a0 gN (nQ 2 1) (eQ 2) c1 c2 c3 ?_
     refine aj (aU a0) ?_
     have q4 : ∀ B, Kp σ ((σ.push ⟨1, 61, 0, [.int .i64 2, .bool di, .slice a1 items.length jA, .slice a2 froms.length jc, .slice a3 wh.length jT, .slice a4 gr.length mF, .slice a5 ha.length mX, .slice a6 or.length ng, .int .i64 n, .slice a7 kids.length zy]⟩).push B) := fun B => kp.push B
     refine C.mono (rY (n := 0) (l := [items.length, froms.length, wh.length, gr.length, ha.length, or.length]) (show 6 ≤ 1000 by decide) aA) ?_
     rintro _ σ4 ⟨rfl, k4⟩
     have n4 := k4.next
     (try simp only [ah, au] at n4)
     have K4 := (q4 _).trans k4
     have zA := (k4.get (σ.next) (by first | omega | (simp only [ah]; omega))).trans ((aC (by first | omega | (simp only [ah]; omega))).trans gN)
     cases c4 : (kS 0 [items.length, froms.length, wh.length, gr.length, ha.length, or.length]) with
     | false =>
      refine aY a0 zA (nQ 2 1) (eQ 2) c1 c2 c3 c4 ?_
      refine fQ a0 ?_
      exact ⟨by simp [d1, c2, c3, c4], K4⟩
     | true =>
      refine aY a0 zA (nQ 2 1) (eQ 2) c1 c2 c3 c4 ?_
      refine aj (aU a0) ?_
      refine C.mono (ql (R := (eP T m).q) (fs := []) (cs := []) (by omega) (fun p hp => kL (hlk.2 p hp)) (fun p hp x => hQ p (hlk.2 p hp) x) _ (bW.kp r7 K4)) ?_
      rintro _ σ5 ⟨rfl, k5⟩
      have n5 := k5.next
      (try simp only [ah, au] at n5)
      have K5 := K4.trans k5
      have iq := (k5.get (σ.next) (by first | omega | (simp only [ah]; omega))).trans (zA)
      refine aY a0 iq (nQ 2 1) (eQ 2) c1 c2 c3 c4 ?_
      refine fQ a0 ?_
      exact ⟨by simp [d1, c2, c3, c4], K5⟩
 by_cases e3 : k = 3
 ·subst e3
  have eR : rX (eP T m) 3 di n items froms wh gr ha or kids = (kids.length == 2 && n == -1 && !di && kS 0 [items.length, froms.length, wh.length, gr.length, ha.length, or.length] && kids.all (eP T m).q) := rfl
  rw [eR]
  have gN : (σ.push ⟨1, 61, 0, [.int .i64 3, .bool di, .slice a1 items.length jA, .slice a2 froms.length jc, .slice a3 wh.length jT, .slice a4 gr.length mF, .slice a5 ha.length mX, .slice a6 or.length ng, .int .i64 n, .slice a7 kids.length zy]⟩).get σ.next = ⟨1, 61, 0, [.int .i64 3, .bool di, .slice a1 items.length jA, .slice a2 froms.length jc, .slice a3 wh.length jT, .slice a4 gr.length mF, .slice a5 ha.length mX, .slice a6 or.length ng, .int .i64 n, .slice a7 kids.length zy]⟩ := aA
  cases c1 : ((kids.length : Int) == 2) with
  | false =>
   have d1 : (kids.length == 2) = false := by rw [← c1]; exact dK _ _
   refine kR a0 gN (nQ 3 1) (nQ 3 2) (eQ 3) c1 ?_
   refine fQ a0 ?_
   exact ⟨by simp [d1], kp⟩
  | true =>
   have d1 : (kids.length == 2) = true := by rw [← c1]; exact dK _ _
   cases c2 : (n == -1) with
   | false =>
    refine nH a0 gN (nQ 3 1) (nQ 3 2) (eQ 3) c1 c2 ?_
    refine fQ a0 ?_
    exact ⟨by simp [d1, c2], kp⟩
   | true =>
    cases c3 : (!di) with
    | false =>
     refine aY a0 gN (nQ 3 1) (nQ 3 2) (eQ 3) c1 c2 c3 ?_
     refine fQ a0 ?_
     exact ⟨by simp [d1, c2, c3], kp⟩
    | true =>
     refine aY a0 gN (nQ 3 1) (nQ 3 2) (eQ 3) c1 c2 c3 ?_
     refine aj (aU a0) ?_
     have q4 : ∀ B, Kp σ ((σ.push ⟨1, 61, 0, [.int .i64 3, .bool di, .slice a1 items.length jA, .slice a2 froms.length jc, .slice a3 wh.length jT, .slice a4 gr.length mF, .slice a5 ha.length mX, .slice a6 or.length ng, .int .i64 n, .slice a7 kids.length zy]⟩).push B) := fun B => kp.push B
     refine C.mono (rY (n := 0) (l := [items.length, froms.length, wh.length, gr.length, ha.length, or.length]) (show 6 ≤ 1000 by decide) aA) ?_
     rintro _ σ4 ⟨rfl, k4⟩
     have n4 := k4.next
     (try simp only [ah, au] at n4)
     have K4 := (q4 _).trans k4
     have zA := (k4.get (σ.next) (by first | omega | (simp only [ah]; omega))).trans ((aC (by first | omega | (simp only [ah]; omega))).trans gN)
     cases c4 : (kS 0 [items.length, froms.length, wh.length, gr.length, ha.length, or.length]) with
     | false =>
      refine aY a0 zA (nQ 3 1) (nQ 3 2) (eQ 3) c1 c2 (cJ c3 c4) ?_
      refine fQ a0 ?_
      exact ⟨by simp [d1, c2, c3, c4], K4⟩
     | true =>
      refine aY a0 zA (nQ 3 1) (nQ 3 2) (eQ 3) c1 c2 (cJ c3 c4) ?_
      refine aj (aU a0) ?_
      refine C.mono (ql (R := (eP T m).q) (fs := []) (cs := []) (by omega) (fun p hp => kL (hlk.2 p hp)) (fun p hp x => hQ p (hlk.2 p hp) x) _ (bW.kp r7 K4)) ?_
      rintro _ σ5 ⟨rfl, k5⟩
      have n5 := k5.next
      (try simp only [ah, au] at n5)
      have K5 := K4.trans k5
      have iq := (k5.get (σ.next) (by first | omega | (simp only [ah]; omega))).trans (zA)
      refine aY a0 iq (nQ 3 1) (nQ 3 2) (eQ 3) c1 c2 (cJ c3 c4) ?_
      refine fQ a0 ?_
      exact ⟨by simp [d1, c2, c3, c4], K5⟩
 by_cases e4 : k = 4
 ·subst e4
  have eR : rX (eP T m) 4 di n items froms wh gr ha or kids = (kids.length == 2 && n == -1 && !di && kS 0 [items.length, froms.length, wh.length, gr.length, ha.length, or.length] && kids.all (eP T m).q) := rfl
  rw [eR]
  have gN : (σ.push ⟨1, 61, 0, [.int .i64 4, .bool di, .slice a1 items.length jA, .slice a2 froms.length jc, .slice a3 wh.length jT, .slice a4 gr.length mF, .slice a5 ha.length mX, .slice a6 or.length ng, .int .i64 n, .slice a7 kids.length zy]⟩).get σ.next = ⟨1, 61, 0, [.int .i64 4, .bool di, .slice a1 items.length jA, .slice a2 froms.length jc, .slice a3 wh.length jT, .slice a4 gr.length mF, .slice a5 ha.length mX, .slice a6 or.length ng, .int .i64 n, .slice a7 kids.length zy]⟩ := aA
  cases c1 : ((kids.length : Int) == 2) with
  | false =>
   have d1 : (kids.length == 2) = false := by rw [← c1]; exact dK _ _
   refine nH a0 gN (nQ 4 1) (nQ 4 2) (nQ 4 3) (eQ 4) c1 ?_
   refine fQ a0 ?_
   exact ⟨by simp [d1], kp⟩
  | true =>
   have d1 : (kids.length == 2) = true := by rw [← c1]; exact dK _ _
   cases c2 : (n == -1) with
   | false =>
    refine aY a0 gN (nQ 4 1) (nQ 4 2) (nQ 4 3) (eQ 4) c1 c2 ?_
    refine fQ a0 ?_
    exact ⟨by simp [d1, c2], kp⟩
   | true =>
    cases c3 : (!di) with
    | false =>
     refine aY a0 gN (nQ 4 1) (nQ 4 2) (nQ 4 3) (eQ 4) c1 (cJ c2 c3) ?_
     refine fQ a0 ?_
     exact ⟨by simp [d1, c2, c3], kp⟩
    | true =>
     refine aY a0 gN (nQ 4 1) (nQ 4 2) (nQ 4 3) (eQ 4) c1 (cJ c2 c3) ?_
     refine aj (aU a0) ?_
     have q4 : ∀ B, Kp σ ((σ.push ⟨1, 61, 0, [.int .i64 4, .bool di, .slice a1 items.length jA, .slice a2 froms.length jc, .slice a3 wh.length jT, .slice a4 gr.length mF, .slice a5 ha.length mX, .slice a6 or.length ng, .int .i64 n, .slice a7 kids.length zy]⟩).push B) := fun B => kp.push B
     refine C.mono (rY (n := 0) (l := [items.length, froms.length, wh.length, gr.length, ha.length, or.length]) (show 6 ≤ 1000 by decide) aA) ?_
     rintro _ σ4 ⟨rfl, k4⟩
     have n4 := k4.next
     (try simp only [ah, au] at n4)
     have K4 := (q4 _).trans k4
     have zA := (k4.get (σ.next) (by first | omega | (simp only [ah]; omega))).trans ((aC (by first | omega | (simp only [ah]; omega))).trans gN)
     cases c4 : (kS 0 [items.length, froms.length, wh.length, gr.length, ha.length, or.length]) with
     | false =>
      refine aY a0 zA (nQ 4 1) (nQ 4 2) (nQ 4 3) (eQ 4) c1 (cJ c2 (cJ c3 c4)) ?_
      refine fQ a0 ?_
      exact ⟨by simp [d1, c2, c3, c4], K4⟩
     | true =>
      refine aY a0 zA (nQ 4 1) (nQ 4 2) (nQ 4 3) (eQ 4) c1 (cJ c2 (cJ c3 c4)) ?_
      refine aj (aU a0) ?_
      refine C.mono (ql (R := (eP T m).q) (fs := []) (cs := []) (by omega) (fun p hp => kL (hlk.2 p hp)) (fun p hp x => hQ p (hlk.2 p hp) x) _ (bW.kp r7 K4)) ?_
      rintro _ σ5 ⟨rfl, k5⟩
      have n5 := k5.next
      (try simp only [ah, au] at n5)
      have K5 := K4.trans k5
      have iq := (k5.get (σ.next) (by first | omega | (simp only [ah]; omega))).trans (zA)
      refine aY a0 iq (nQ 4 1) (nQ 4 2) (nQ 4 3) (eQ 4) c1 (cJ c2 (cJ c3 c4)) ?_
      refine fQ a0 ?_
      exact ⟨by simp [d1, c2, c3, c4], K5⟩
 by_cases e5 : k = 5
 ·subst e5
  have eR : rX (eP T m) 5 di n items froms wh gr ha or kids = (kids.length == 2 && n == -1 && !di && kS 0 [items.length, froms.length, wh.length, gr.length, ha.length, or.length] && kids.all (eP T m).q) := rfl
  rw [eR]
  have gN : (σ.push ⟨1, 61, 0, [.int .i64 5, .bool di, .slice a1 items.length jA, .slice a2 froms.length jc, .slice a3 wh.length jT, .slice a4 gr.length mF, .slice a5 ha.length mX, .slice a6 or.length ng, .int .i64 n, .slice a7 kids.length zy]⟩).get σ.next = ⟨1, 61, 0, [.int .i64 5, .bool di, .slice a1 items.length jA, .slice a2 froms.length jc, .slice a3 wh.length jT, .slice a4 gr.length mF, .slice a5 ha.length mX, .slice a6 or.length ng, .int .i64 n, .slice a7 kids.length zy]⟩ := aA
  cases c1 : ((kids.length : Int) == 2) with
  | false =>
   have d1 : (kids.length == 2) = false := by rw [← c1]; exact dK _ _
   refine aY a0 gN (nQ 5 1) (nQ 5 2) (nQ 5 3) (nQ 5 4) (eQ 5) c1 ?_
   refine fQ a0 ?_
   exact ⟨by simp [d1], kp⟩
  | true =>
   have d1 : (kids.length == 2) = true := by rw [← c1]; exact dK _ _
   cases c2 : (n == -1) with
   | false =>
    refine aY a0 gN (nQ 5 1) (nQ 5 2) (nQ 5 3) (nQ 5 4) (eQ 5) (cJ c1 c2) ?_
    refine fQ a0 ?_
    exact ⟨by simp [d1, c2], kp⟩
   | true =>
    cases c3 : (!di) with
    | false =>
     refine aY a0 gN (nQ 5 1) (nQ 5 2) (nQ 5 3) (nQ 5 4) (eQ 5) (cJ c1 (cJ c2 c3)) ?_
     refine fQ a0 ?_
     exact ⟨by simp [d1, c2, c3], kp⟩
    | true =>
     refine aY a0 gN (nQ 5 1) (nQ 5 2) (nQ 5 3) (nQ 5 4) (eQ 5) (cJ c1 (cJ c2 c3)) ?_
     refine aj (aU a0) ?_
     have q4 : ∀ B, Kp σ ((σ.push ⟨1, 61, 0, [.int .i64 5, .bool di, .slice a1 items.length jA, .slice a2 froms.length jc, .slice a3 wh.length jT, .slice a4 gr.length mF, .slice a5 ha.length mX, .slice a6 or.length ng, .int .i64 n, .slice a7 kids.length zy]⟩).push B) := fun B => kp.push B
     refine C.mono (rY (n := 0) (l := [items.length, froms.length, wh.length, gr.length, ha.length, or.length]) (show 6 ≤ 1000 by decide) aA) ?_
     rintro _ σ4 ⟨rfl, k4⟩
     have n4 := k4.next
     (try simp only [ah, au] at n4)
     have K4 := (q4 _).trans k4
     have zA := (k4.get (σ.next) (by first | omega | (simp only [ah]; omega))).trans ((aC (by first | omega | (simp only [ah]; omega))).trans gN)
     cases c4 : (kS 0 [items.length, froms.length, wh.length, gr.length, ha.length, or.length]) with
     | false =>
      refine aY a0 zA (nQ 5 1) (nQ 5 2) (nQ 5 3) (nQ 5 4) (eQ 5) (cJ c1 (cJ c2 (cJ c3 c4))) ?_
      refine fQ a0 ?_
      exact ⟨by simp [d1, c2, c3, c4], K4⟩
     | true =>
      refine aY a0 zA (nQ 5 1) (nQ 5 2) (nQ 5 3) (nQ 5 4) (eQ 5) (cJ c1 (cJ c2 (cJ c3 c4))) ?_
      refine aj (aU a0) ?_
      refine C.mono (ql (R := (eP T m).q) (fs := []) (cs := []) (by omega) (fun p hp => kL (hlk.2 p hp)) (fun p hp x => hQ p (hlk.2 p hp) x) _ (bW.kp r7 K4)) ?_
      rintro _ σ5 ⟨rfl, k5⟩
      have n5 := k5.next
      (try simp only [ah, au] at n5)
      have K5 := K4.trans k5
      have iq := (k5.get (σ.next) (by first | omega | (simp only [ah]; omega))).trans (zA)
      refine aY a0 iq (nQ 5 1) (nQ 5 2) (nQ 5 3) (nQ 5 4) (eQ 5) (cJ c1 (cJ c2 (cJ c3 c4))) ?_
      refine fQ a0 ?_
      exact ⟨by simp [d1, c2, c3, c4], K5⟩
 have c1 : (k == 1) = false := by simp only [beq_eq_false_iff_ne]; exact e1
 have c2 : (k == 2) = false := by simp only [beq_eq_false_iff_ne]; exact e2
 have c3 : (k == 3) = false := by simp only [beq_eq_false_iff_ne]; exact e3
 have c4 : (k == 4) = false := by simp only [beq_eq_false_iff_ne]; exact e4
 have c5 : (k == 5) = false := by simp only [beq_eq_false_iff_ne]; exact e5
 refine kR a0 c1 c2 c3 c4 c5 ?_
 refine dG ?_
 exact ⟨by simp [rX, e1, e2, e3, e4, e5], kp⟩
end Go.Proofs.YthogkmcahnkkoaaGreatDoor
