/- The law: what two scripts' statements are written as, one behind the other. -/
import Derived.Test.YthogkmcahnkkoaaGreatDoorJ45
namespace Go.Proofs.YthogkmcahnkkoaaGreatDoor
open Go.RowKit
set_option maxRecDepth 10000
set_option maxHeartbeats 8000000
set_option linter.unusedSimpArgs false
set_option linter.unusedVariables false
theorem Iu {σ : AW} {D : Nat → Prop} {n : Nat} {β : Bd} {p : Tr} (hp : vF β n p) (x : Value) (h : Rd σ D p x) : (aF x).all gu = true := by
 obtain ⟨l, rfl, _, ho⟩ := eG (JD hp) h
 exact ho
theorem ZW {na nb : Nat} {va pa ba vb pb bb : List Tr} (hva : ∀ q ∈ va, KV q) (hval : va.length ≤ 9223372036854775807) (hpa : ∀ q ∈ pa, KP na q) (aep : pa.length ≤ 9223372036854775807) (hba : LL bM (vF bM na) ba)
  (hvb : ∀ q ∈ vb, KV q) (aer : vb.length ≤ 9223372036854775807) (hpb : ∀ q ∈ pb, KP nb q) (aes : pb.length ≤ 9223372036854775807) (hbb : LL bM (vF bM nb) bb) {x y : Value} {σ : AW} (hx : bW (zq va pa ba) x σ) (hy : bW (zq vb pb bb) y σ) :
  C Tryz.prog 3 [x, y] σ fun v _ => v = .bool true := by
 obtain ⟨v1, v2, v3, rfl, r1, r2, r3⟩ := Ip hx
 obtain ⟨u1, u2, u3, rfl, s1, s2, s3⟩ := Ip hy
 obtain ⟨y1, jA, rfl⟩ := aG r1
 obtain ⟨y2, jc, rfl⟩ := aG r2
 obtain ⟨y3, jT, rfl⟩ := aG r3
 obtain ⟨z1, e1z, rfl⟩ := aG s1
 obtain ⟨z2, e2z, rfl⟩ := aG s2
 obtain ⟨z3, ZG, rfl⟩ := aG s3
 refine fG Tryz.func3 Tryz.ntmps3 Tryz.results3 fun A hz a0 a1 => ?_
 refine gQ a0 a1 ?_
 obtain ⟨τ, hτ, kt, gA, gB, nx⟩ : ∃ τ, τ = ((σ.push ⟨1, 26, 0, [.slice y1 va.length jA, .slice y2 pa.length jc, .slice y3 ba.length jT]⟩).push ⟨1, 26, 0, [.slice z1 vb.length e1z, .slice z2 pb.length e2z, .slice z3 bb.length ZG]⟩) ∧ Kp σ τ ∧ τ.get σ.next = ⟨1, 26, 0, [.slice y1 va.length jA, .slice y2 pa.length jc, .slice y3 ba.length jT]⟩ ∧ τ.get (σ.next + 1) = ⟨1, 26, 0, [.slice z1 vb.length e1z, .slice z2 pb.length e2z, .slice z3 bb.length ZG]⟩ ∧ τ.next = σ.next + 2 := ⟨_, rfl, ((Kp.refl σ).push _).push _, (aC (by rw [ah]; omega)).trans aA, aA, rfl⟩
 rw [← hτ]
 clear hτ
 refine aj (bP a0 a1) ?_
 refine C.mono (yL hva hval hpa aep hba (bW.kp hx kt)) ?_
 rintro _ σ1 ⟨⟨w1, rfl, w1a, w1b, w1c⟩, k1⟩
 have n1 := k1.next
 have gA1 := (k1.get σ.next (by omega)).trans gA
 have gB1 := (k1.get (σ.next + 1) (by omega)).trans gB
 by_cases h1 : 100 < w1
 ·have c1 : decide ((100 : Int) < w1) = true := decide_eq_true h1
  refine dS gA1 gB1 c1 ?_
  refine aj (dD) ?_
  refine C.mono (qN _) ?_
  rintro _ σ2 ⟨rfl, _⟩
  refine iO ?_
  exact ZV
 have c1 : decide ((100 : Int) < w1) = false := decide_eq_false h1
 refine dS gA1 gB1 c1 ?_
 refine aj (dD) ?_
 refine C.mono (yL hvb aer hpb aes hbb (bW.kp hy (kt.trans k1))) ?_
 rintro _ σ2 ⟨⟨w2, rfl, w2a, w2b, w2c⟩, k2⟩
 have n2 := k2.next
 have gA2 := (k2.get σ.next (by omega)).trans gA1
 have gB2 := (k2.get (σ.next + 1) (by omega)).trans gB1
 by_cases h2 : 100 < w2
 ·have c2 : decide ((100 : Int) < w2) = true := decide_eq_true h2
  refine dS gA2 gB2 c2 ?_
  refine aj (dD) ?_
  refine C.mono (qN _) ?_
  rintro _ σ3 ⟨rfl, _⟩
  refine iO ?_
  exact ZV
 have c2 : decide ((100 : Int) < w2) = false := decide_eq_false h2
 obtain ⟨l1, l2, lba⟩ := w1c (by omega)
 obtain ⟨l3, l4, lbb⟩ := w2c (by omega)
 have ad1 : aT .add (.int .i64 (va.length : Int)) (.int .i64 (pa.length : Int)) = some (.int .i64 ((va.length + pa.length : Nat) : Int)) := by rw [aH (by omega) (by omega)]; rfl
 have ad2 : aT .add (.int .i64 ((va.length + pa.length : Nat) : Int)) (.int .i64 (vb.length : Int)) = some (.int .i64 ((va.length + pa.length + vb.length : Nat) : Int)) := by rw [aH (by omega) (by omega)]; rfl
 have ad3 : aT .add (.int .i64 ((va.length + pa.length + vb.length : Nat) : Int)) (.int .i64 (pb.length : Int)) = some (.int .i64 ((va.length + pa.length + vb.length + pb.length : Nat) : Int)) := by rw [aH (by omega) (by omega)]; rfl
 by_cases h3 : 0 < va.length + pa.length + vb.length + pb.length
 ·have c3 : decide ((0 : Int) < ((va.length + pa.length + vb.length + pb.length : Nat) : Int)) = true := by simp only [decide_eq_true_eq]; omega
  refine nH gA2 gB2 c2 ad1 ad2 ad3 c3 ?_
  refine aj (dD) ?_
  refine C.mono (qN _) ?_
  rintro _ σ3 ⟨rfl, _⟩
  refine iO ?_
  exact ZV
 have c3 : decide ((0 : Int) < ((va.length + pa.length + vb.length + pb.length : Nat) : Int)) = false := by simp only [decide_eq_false_iff_not]; omega
 obtain ⟨e1, e2, e3, e4⟩ : va = [] ∧ pa = [] ∧ vb = [] ∧ pb = [] := ⟨List.eq_nil_of_length_eq_zero (by omega), List.eq_nil_of_length_eq_zero (by omega), List.eq_nil_of_length_eq_zero (by omega), List.eq_nil_of_length_eq_zero (by omega)⟩
 refine nH gA2 gB2 c2 ad1 ad2 ad3 c3 ?_
 refine aj (dD) ?_
 clear ad1 ad2 ad3 c3 h3 l1 l2 l3 l4 hva hval hpa aep hvb aer hpb aes
 subst e1 e2 e3 e4
 have K2 := (kt.trans k1).trans k2
 have la : ba.length ≤ 1000 := lba.1
 have lb : bb.length ≤ 1000 := lbb.1
 have ua : Ee (sl 9 ba) (.slice y3 ba.length jT) σ2 := iw (bW.kp r3 K2) (fun p hp => xP 61 p (lba.2 p hp))
 have ub : Ee (sl 9 bb) (.slice z3 bb.length ZG) σ2 := iw (bW.kp s3 K2) (fun p hp => xP 61 p (lbb.2 p hp))
 have hxU : Ee (zq [] [] ba) (.agg ⟨[.slice y1 ([] : List Tr).length jA, .slice y2 ([] : List Tr).length jc, .slice y3 ba.length jT]⟩) σ2 := O5 (aW _ _ _) (aW _ _ _) ua
 refine C.mono (CO (n := 60) (body := ba) (by omega) lba.2 hxU) ?_
 rintro _ σ3 ⟨rfl, k3⟩
 obtain ⟨oa, hoa⟩ : ∃ oa, oa = ba.all (okT (60 + 1)) := ⟨_, rfl⟩
 obtain ⟨A1, hA1⟩ : ∃ A1, A1 = lD oa (dH (60 + 1) 1 0 ba true) := ⟨_, rfl⟩
 rw [← hoa, ← hA1]
 have n3 := k3.next
 have Y1 := (k3.get σ.next (by omega) (.inl (by rw [gA2]; show (26 : Nat) ≠ 5; decide))).trans gA2
 have gB3 := (k3.get (σ.next + 1) (by omega) (.inl (by rw [gB2]; show (26 : Nat) ≠ 5; decide))).trans gB2
 have hyU : Ee (zq [] [] bb) (.agg ⟨[.slice z1 ([] : List Tr).length e1z, .slice z2 ([] : List Tr).length e2z, .slice z3 bb.length ZG]⟩) σ3 := O5 (aW _ _ _) (aW _ _ _) (ub.ku k3)
 refine gQ Y1 gB3 ?_
 refine aj (dD) ?_
 refine C.mono (CO (n := 60) (body := bb) (by omega) lbb.2 hyU) ?_
 rintro _ τ ⟨rfl, k4⟩
 obtain ⟨ob, hob⟩ : ∃ ob, ob = bb.all (okT (60 + 1)) := ⟨_, rfl⟩
 obtain ⟨B1, hB1⟩ : ∃ B1, B1 = lD ob (dH (60 + 1) 1 0 bb true) := ⟨_, rfl⟩
 rw [← hob, ← hB1]
 have n4 := k4.next
 have gA4 := (k4.get σ.next (by omega) (.inl (by rw [Y1]; show (26 : Nat) ≠ 5; decide))).trans Y1
 have gB4 := (k4.get (σ.next + 1) (by omega) (.inl (by rw [gB3]; show (26 : Nat) ≠ 5; decide))).trans gB3
 have lo : ∀ {p v : Value}, bW p v τ → Rd τ (fun k => k < τ.next) p v := fun h => h.keep (fun _ _ _ _ => rfl) (Nat.le_refl _) (fun _ _ h => h)
 have ra := lo (Ee.rda (ua.ku (k3.trans k4)))
 have rb := lo (Ee.rda (ub.ku (k3.trans k4)))
 clear lo
 have bs0 : bf Tryz.prog τ 24 0 [] = some (.slice (some ⟨τ.next, 0, none⟩) 0 0, τ.push ⟨1, 54, 1, []⟩) := QU KG PV acE rfl (by decide) (vs := []) (by decide) (fun v hv => absurd hv (by simp))
 have kp0 : Kp τ (τ.push ⟨1, 54, 1, []⟩) := (Kp.refl τ).push _
 have hd0 : Dst (τ.push ⟨1, 54, 1, []⟩) 54 9 (.slice (some ⟨τ.next, 0, none⟩) 0 0) τ.next 0 [] := ⟨0, rfl, by simp, Nat.lt_succ_self _, .inl ⟨rfl, rfl, aA⟩⟩
 have ra0 : Rd (τ.push ⟨1, 54, 1, []⟩) (fun k => k < τ.next) (sl 9 ba) (.slice y3 ba.length jT) := ra.keep (fun j hj _ _ => kp0.get j hj) kp0.next (fun _ hD _ => hD)
 obtain ⟨vs1, aha, rl1, hx1, _, abP⟩ := VY KG ra0 (fun p hp x h => Iu (lba.2 p hp) x h)
 obtain ⟨v4, B4, σ4, ap1, hd4, hB4, Gt, kp4⟩ := Qp KG aah rfl (by decide) hd0 aha abP (by omega) (by omega)
 simp only [ah] at hB4 Gt kp4
 rw [Nat.zero_add] at hd4
 have Zp : Kp τ σ4 := ⟨by omega, fun j hj => (kp4 j (by omega) (by omega)).trans (aC (by omega))⟩
 obtain ⟨c4, e4, _⟩ := id hd4
 subst e4
 have gA5 := (Zp.get _ (by omega)).trans gA4
 have gB5 := (Zp.get _ (by omega)).trans gB4
 have gAp : ∀ B, (τ.push B).get σ.next = _ := fun B => (aC (by omega)).trans gA4
 have gBp : ∀ B, (τ.push B).get (σ.next + 1) = _ := fun B => (aC (by omega)).trans gB4
 have rb4 : Rd σ4 (fun k => k < τ.next) (sl 9 bb) (.slice z3 bb.length ZG) := rb.keep (fun j hj _ _ => Zp.get j hj) Zp.next (fun _ hD _ => hD)
 obtain ⟨vs2, ahb, rl2, hx2, _, ahc⟩ := VY KG rb4 (fun p hp x h => Iu (lbb.2 p hp) x h)
 obtain ⟨v6, B6, σ6, ap2, hd6, hB6, nx6, kp6⟩ := Qp KG aah rfl (by decide) hd4 ahb ahc (by omega) (by omega)
 have akz : τ.next ≤ B4 := by omega
 have kq8 : Kp τ σ6 := ⟨by omega, fun j hj => (kp6 j (by omega) (by omega)).trans (Zp.get j hj)⟩
 obtain ⟨c6, e6, _⟩ := id hd6
 subst e6
 have gA6 := (kq8.get _ (by omega)).trans gA4
 have gB6 := (kq8.get _ (by omega)).trans gB4
 have ahg : nG σ6 (fun _ => True) ba vs1 := rl1.keep (fun j hj hlt _ => by rw [kq8.get j hj, aC (by omega)]) (by rw [ah]; omega) (fun _ _ _ => trivial)
 have ahh : nG σ6 (fun _ => True) bb vs2 := rl2.keep (fun j hj hlt _ => kp6 j hlt (by omega)) nx6 (fun _ _ _ => trivial)
 have lv1 := rl1.length
 have lv2 := rl2.length
 have rv6 := Dst.rd (D := fun _ => True) hd6 (by decide) (vs := vs1 ++ vs2) (ps := ba ++ bb) (by simp) (by rw [List.length_append]; omega) (ahg.append ahh) (fun u hu => (List.mem_append.1 hu).elim (hx1 u) (hx2 u)) trivial
 have hks : ∀ p ∈ ba ++ bb, vF b0 61 p := fun p hp => (List.mem_append.1 hp).elim (lba.2 p) (lbb.2 p)
 have uv : Ee (sl 9 (ba ++ bb)) _ σ6 := iw rv6 (fun p hp => xP 61 p (hks p hp))
 have hzU : Ee (zq [] [] (ba ++ bb)) (.agg ⟨[.slice none 0 0, .slice none 0 0, _]⟩) σ6 := O5 (aW _ _ _) (aW _ _ _) uv
 refine iO ?_
 refine bY mixed (by kernel_rfl) (by kernel_rfl) ?_
 refine XM gA4 gB4 gAp gBp bs0 ap1 gA5 (cJ gB5 ap2) ?_
 refine bD (dD) ?_
 refine C.mono (CO (n := 60) (body := ba ++ bb) (by rw [List.length_append]; omega) hks hzU) ?_
 rintro _ σ7 ⟨rfl, k7⟩
 rw [List.all_append, ← hoa, ← hob]
 have n7 := k7.next
 have gA7 := (k7.get σ.next (by omega) (.inl (by rw [gA6]; show (26 : Nat) ≠ 5; decide))).trans gA6
 have gB7 := (k7.get (σ.next + 1) (by omega) (.inl (by rw [gB6]; show (26 : Nat) ≠ 5; decide))).trans gB6
 obtain ⟨U1, hU1⟩ : ∃ U1, U1 = lD (oa && ob) (dH (60 + 1) 1 0 (ba ++ bb) true) := ⟨_, rfl⟩
 rw [← hU1]
 refine NW ?_
 refine oW [(2, 0), (2, 1), (5, 0), (5, 1), (5, 4)] ?_ ?_
 ·(repeat (refine aO (bg rfl rfl rfl rfl rfl (kC gA4 gB4 gAp gBp gA5 gB5 gA6 (cJ gB6 (cJ gA7 gB7)))) ?_)); exact bn
 have ZX := SE (60 + 1) ba bb oa ob
 have hnone := V9 (60 + 1) oa
 rw [← hA1, ← hB1, ← hU1] at ZX
 have aey : A1.2 = 0 → A1.1.size ≤ 20000 := fun h => by
  rw [hA1] at h ⊢
  rw [xI h, Fz]
  exact (out_ok.1 h).2.2
 have aez : B1.2 = 0 → B1.1.size ≤ 20000 := fun h => by
  rw [hB1] at h ⊢
  rw [xI h, Fz]
  exact (out_ok.1 h).2.2
 by_cases hA0 : A1.2 = 0
 ·have d1 : (A1.2 != 0) = false := by simp [hA0]
  by_cases hB0 : B1.2 = 0
  ·have d2 : (B1.2 != 0) = false := by simp [hB0]
   have sA := aey hA0
   have sB := aez hB0
   have l9 : ∀ τ, fF Tryz.prog τ 24 (.slice y3 ba.length jT) = some (.int .i64 ba.length) := fun τ => KH τ _ _ _
   have had : aT .add (.int .i64 (A1.1.size : Int)) (.int .i64 (B1.1.size : Int)) = some (.int .i64 ((A1.1.size : Int) + (B1.1.size : Int))) := aH (by omega) (by omega)
   have aeA : A1.1.size + B1.1.size ≤ 9223372036854775807 := by omega
   have hemp : ¬ 0 < ba.length → decide (A1.1 = (⟨#[]⟩ : ByteArray)) = true := fun h => by
    have : ba = [] := List.eq_nil_of_length_eq_zero (by omega)
    subst this
    rw [hA1]
    exact decide_eq_true hnone
   rcases ZX.2 hA0 hB0 with ⟨hU8, hbig⟩ | ⟨hU0, hUt⟩
   ·have d3 : (U1.2 == 8) = true := by simp [hU8]
    have d4 : decide ((20000 : Int) < (A1.1.size : Int) + (B1.1.size : Int)) = true := by simp only [decide_eq_true_eq]; omega
    by_cases hpos : 0 < ba.length
    ·have d5 : decide ((0 : Int) < (ba.length : Int)) = true := by simp only [decide_eq_true_eq]; omega
     refine aY d1 d2 d3 d4 d5 had gA7 l9 ?_
     refine aj (dD) ?_
     refine C.mono (qN _) ?_
     rintro _ σ8 ⟨rfl, _⟩
     refine iO ?_
     exact ZV
    ·have d5 : decide ((0 : Int) < (ba.length : Int)) = false := by simp only [decide_eq_false_iff_not]; omega
     have d6 := hemp hpos
     refine aY d1 d2 d3 d4 d5 d6 had (cJ gA7 l9) ?_
     refine aj (dD) ?_
     refine C.mono (qN _) ?_
     rintro _ σ8 ⟨rfl, _⟩
     refine iO ?_
     exact ZV
   ·have d3 : (U1.2 == 8) = false := by simp [hU0]
    have d7 : (U1.2 == 0) = true := by simp [hU0]
    have d8 : decide (U1.1 = A1.1 ++ B1.1) = true := decide_eq_true hUt
    by_cases hpos : 0 < ba.length
    ·have d5 : decide ((0 : Int) < (ba.length : Int)) = true := by simp only [decide_eq_true_eq]; omega
     refine aY d1 d2 d3 d5 d7 d8 had (cJ aeA (cJ gA7 l9)) ?_
     refine aj (dD) ?_
     refine C.mono (qN _) ?_
     rintro _ σ8 ⟨rfl, _⟩
     refine iO ?_
     exact ZV
    ·have d5 : decide ((0 : Int) < (ba.length : Int)) = false := by simp only [decide_eq_false_iff_not]; omega
     have d6 := hemp hpos
     refine aY d1 d2 d3 d5 d6 d7 d8 (cJ had (cJ aeA (cJ gA7 l9))) ?_
     refine aj (dD) ?_
     refine C.mono (qN _) ?_
     rintro _ σ8 ⟨rfl, _⟩
     refine iO ?_
     exact ZV
  ·have d2 : (B1.2 != 0) = true := by simp [hB0]
   have hU : U1.2 ≠ 0 := ZX.1 (.inr hB0)
   have d3 : (U1.2 != 0) = true := by simp [hU]
   refine dS d1 d2 d3 ?_
   refine aj (dD) ?_
   refine C.mono (qN _) ?_
   rintro _ σ8 ⟨rfl, _⟩
   refine iO ?_
   exact ZV
 ·have d1 : (A1.2 != 0) = true := by simp [hA0]
  have hU : U1.2 ≠ 0 := ZX.1 (.inl hA0)
  have d3 : (U1.2 != 0) = true := by simp [hU]
  refine gQ d1 d3 ?_
  refine aj (dD) ?_
  refine C.mono (qN _) ?_
  rintro _ σ8 ⟨rfl, _⟩
  refine iO ?_
  exact ZV
end Go.Proofs.YthogkmcahnkkoaaGreatDoor
