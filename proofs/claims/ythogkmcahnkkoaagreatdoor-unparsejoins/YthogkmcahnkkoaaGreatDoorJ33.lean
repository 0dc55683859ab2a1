/- Which queries package unparse takes for right. -/
import Derived.Test.YthogkmcahnkkoaaGreatDoorJ31
import Derived.Test.YthogkmcahnkkoaaGreatDoorJ32
namespace Go.Proofs.YthogkmcahnkkoaaGreatDoor
open Go.RowKit
set_option maxRecDepth 10000
set_option linter.unusedSimpArgs false
set_option linter.unusedVariables false
set_option maxHeartbeats 4000000
section
variable {A : Fr} {σ : AW} {d : Option Tmp} {ty : TypeId} {po : String} {af : Array Edge} {gd : Option (Nat × Bool)}
theorem Tt {x : Operand} : zU Tryz.prog A σ ⟨d, .slice 145 x none none none, ty, po, af, gd⟩ = match ev A x with
 | some (.pointer (some a)) => some (.slice (some a) 3 6, σ)
 | _ => Yx Tryz.prog A σ ⟨d, .slice 145 x none none none, ty, po, af, gd⟩ := by
 split
 ·rename_i a h
  have e : wP Tryz.prog σ 145 (.pointer (some a)) none none none = some (.slice (some a) 3 6) := by kernel_rfl
  unfold zU
  simp only [kQ, h, Pm, e, same]
 ·rfl
end
attribute [go_sem] Tt
theorem Ec {T : ByteArray → Bool} {m : Nat} (hE : ∀ p, (bT b0 m).e p → ∀ x, bV (bW p x) 21 [x] ((eP T m).e p)) {p : Tr} (hp : KI b0 (bT b0 m).e p) {x : Value} : bV (bW p x) 129 [x] (wE (eP T m) p) := by
 intro σ hx
 obtain ⟨y, nm, rfl, hn, hy⟩ := hp
 have hn' : nm.size ≤ 1200 := hn
 obtain ⟨k, n, s1, t1, kids, qs, rfl⟩ := FM hy
 obtain ⟨vk, vq, v, rfl, r1, r2, r3⟩ := OL hx
 have hv := jQ.1 r3
 subst hv
 have o1 := ay r1
 have o2 := ay r2
 have kp : Kp σ (σ.push ⟨1, 87, 0, [.int .i64 k, .int .i64 n, .string s1, .string t1, vk, vq, .string nm]⟩) := (Kp.refl σ).push _
 have e : wE (eP T m) (withName (kH k n s1 t1 kids qs) nm) = (gq nm && (eP T m).e (kH k n s1 t1 kids qs)) := rfl
 rw [e]
 refine pK Tryz.func129 Tryz.ntmps129 Tryz.results129 fun A hz a0 => ?_
 refine dS a0 o1 o2 ?_
 refine aj (aU a0) ?_
 refine C.mono (pU nm (by omega) _ trivial) ?_
 rintro _ σ1 ⟨rfl, k1⟩
 have n1 := k1.next
 (try simp only [ah, au] at n1)
 have K1 := Kp.trans kp k1
 have g1 := (k1.get σ.next (by first | omega | (simp only [ah]; omega))).trans (dD)
 cases c1 : (gq nm) with
 | false =>
  refine jy a0 g1 o1 o2 c1 ?_
  refine fQ a0 ?_
  exact ⟨by simp [c1], K1⟩
 | true =>
  refine jy a0 g1 o1 o2 c1 ?_
  refine aj (aU a0) ?_
  refine C.mono (hE _ hy _ _ (bW.kp (yI r1 r2) K1)) ?_
  rintro _ σ2 ⟨rfl, k2⟩
  have n2 := k2.next
  (try simp only [ah, au] at n2)
  have K2 := Kp.trans K1 k2
  have g2 := (k2.get σ.next (by first | omega | (simp only [ah]; omega))).trans g1
  refine jy a0 g2 o1 o2 c1 ?_
  refine fQ a0 ?_
  exact ⟨by simp [c1], K2⟩
theorem JB {T : ByteArray → Bool} {m : Nat} (hE : ∀ p, (bT b0 m).e p → ∀ x, bV (bW p x) 21 [x] ((eP T m).e p)) {p : Tr} (hp : KK (bT b0 m).e p) {x : Value} : bV (bW p x) 133 [x] (MG (eP T m) p) := by
 intro σ hx
 obtain ⟨y, fl, rfl, hy⟩ := hp
 obtain ⟨k, n, s1, t1, kids, qs, rfl⟩ := FM hy
 obtain ⟨vk, vq, v, rfl, r1, r2, r3⟩ := OL hx
 have hv := sW.1 r3
 subst hv
 have o1 := ay r1
 have o2 := ay r2
 have kp : Kp σ (σ.push ⟨1, 89, 0, [.int .i64 k, .int .i64 n, .string s1, .string t1, vk, vq, .bool fl]⟩) := (Kp.refl σ).push _
 have e : MG (eP T m) (uT (kH k n s1 t1 kids qs) fl) = (eP T m).e (kH k n s1 t1 kids qs) := rfl
 rw [e]
 refine pK Tryz.func133 Tryz.ntmps133 Tryz.results133 fun A hz a0 => ?_
 refine dS a0 o1 o2 ?_
 refine aj (aU a0) ?_
 refine C.mono (hE _ hy _ _ (bW.kp (yI r1 r2) kp)) ?_
 rintro _ σ1 ⟨rfl, k1⟩
 have n1 := k1.next
 (try simp only [ah, au] at n1)
 have K1 := Kp.trans kp k1
 have g1 := (k1.get σ.next (by first | omega | (simp only [ah]; omega))).trans (dD)
 refine dV a0 g1 o1 o2 ?_
 refine fQ a0 ?_
 exact ⟨by simp, K1⟩
theorem Zz {T : ByteArray → Bool} {m : Nat} (hE : ∀ p, (bT b0 m).e p → ∀ x, bV (bW p x) 21 [x] ((eP T m).e p)) (hQ : ∀ p, (bT b0 m).q p → ∀ x, bV (bW p x) 53 [x] ((eP T m).q p)) (hF : ∀ p, (bT b0 m).f p → ∀ x, bV (bW p x) 131 [x] ((eP T m).f p)) {k : Int} {v : Bool} {t a : ByteArray} {q kids on : List Tr} (hts : SS b0 t) (has : SS b0 a) (Zy : LL b0 (bT b0 m).q q) (hkl : LL b0 (bT b0 m).f kids) (hol : LL b0 (bT b0 m).e on) {x : Value} :
  bV (bW (DZ k v t a q kids on) x) 131 [x] (yJ (eP T m) k v t a q kids on) := by
 intro σ hx
 obtain ⟨v1, v2, v3, rfl, r1, r2, r3⟩ := FD hx
 obtain ⟨aq, cq, rfl⟩ := aG r1
 obtain ⟨ak, ck, rfl⟩ := aG r2
 obtain ⟨ao, co, rfl⟩ := aG r3
 have ht0 : t.size ≤ 1200 := hts
 have ha0 : a.size ≤ 1200 := has
 have hq0 : q.length ≤ 1000 := Zy.1
 have hk0 : kids.length ≤ 1000 := hkl.1
 have ho0 : on.length ≤ 1000 := hol.1
 have kp : Kp σ (σ.push ⟨1, 92, 0, [.int .i64 k, .string t, .bool v, .string a, .slice aq q.length cq, .slice ak kids.length ck, .slice ao on.length co]⟩) := (Kp.refl σ).push _
 refine pK Tryz.func131 Tryz.ntmps131 Tryz.results131 fun A hz a0 => ?_
 by_cases e1 : k = 1
 ·subst e1
  have eR : yJ (eP T m) 1 v t a q kids on = (gq t && gq a && kS 0 [q.length, kids.length, on.length]) := rfl
  rw [eR]
  refine gQ a0 (eQ 1) ?_
  refine aj (aU a0) ?_
  refine C.mono (pU t (by omega) _ trivial) ?_
  rintro _ σ1 ⟨rfl, k1⟩
  have n1 := k1.next
  (try simp only [ah, au] at n1)
  have K1 := Kp.trans kp k1
  have g1 := (k1.get σ.next (by first | omega | (simp only [ah]; omega))).trans (dD)
  cases c1 : (gq t) with
  | false =>
   refine dV a0 g1 (eQ 1) c1 ?_
   refine fQ a0 ?_
   exact ⟨by simp [c1], K1⟩
  | true =>
   refine dV a0 g1 (eQ 1) c1 ?_
   refine aj (aU a0) ?_
   refine C.mono (pU a (by omega) _ trivial) ?_
   rintro _ σ2 ⟨rfl, k2⟩
   have n2 := k2.next
   (try simp only [ah, au] at n2)
   have K2 := Kp.trans K1 k2
   have g2 := (k2.get σ.next (by first | omega | (simp only [ah]; omega))).trans g1
   cases c2 : (gq a) with
   | false =>
    refine jy a0 g2 (eQ 1) c1 c2 ?_
    refine fQ a0 ?_
    exact ⟨by simp [c1, c2], K2⟩
   | true =>
    refine jy a0 g2 (eQ 1) c1 c2 ?_
    refine aj (aU a0) ?_
    have q3 : ∀ B, Kp σ (σ2.push B) := fun B => K2.push B
    refine C.mono (rY (n := 0) (l := [q.length, kids.length, on.length]) (show 3 ≤ 1000 by decide) aA) ?_
    rintro _ σ3 ⟨rfl, k3⟩
    have n3 := k3.next
    (try simp only [ah, au] at n3)
    have K3 := Kp.trans (q3 _) k3
    have g3 := (k3.get σ.next (by first | omega | (simp only [ah]; omega))).trans ((aC (by omega)).trans g2)
    cases c3 : (kS 0 [q.length, kids.length, on.length]) with
    | false =>
     refine kR a0 g3 (eQ 1) c1 c2 c3 ?_
     refine fQ a0 ?_
     exact ⟨by simp [c1, c2, c3], K3⟩
    | true =>
     refine kR a0 g3 (eQ 1) c1 c2 c3 ?_
     refine fQ a0 ?_
     exact ⟨by simp [c1, c2, c3], K3⟩
 by_cases e2 : k = 2
 ·subst e2
  have eR : yJ (eP T m) 2 v t a q kids on = (decide (t = eB) && !v && gq a && kS 0 [kids.length, on.length] && q.length == 1 && q.all (eP T m).q) := rfl
  rw [eR]
  cases c1 : (decide (t = (⟨#[]⟩ : ByteArray))) with
  | false =>
   have d1 : decide (t = eB) = false := c1
   refine dV a0 (nQ 2 1) (eQ 2) c1 ?_
   refine fQ a0 ?_
   exact ⟨by simp [d1], kp⟩
  | true =>
   have d1 : decide (t = eB) = true := c1
   cases c2 : (!v) with
   | false =>
    refine jy a0 (nQ 2 1) (eQ 2) c1 c2 ?_
    refine fQ a0 ?_
    exact ⟨by simp [d1, c2], kp⟩
   | true =>
    refine jy a0 (nQ 2 1) (eQ 2) c1 c2 ?_
    refine aj (aU a0) ?_
    refine C.mono (pU a (by omega) _ trivial) ?_
    rintro _ σ3 ⟨rfl, k3⟩
    have n3 := k3.next
    (try simp only [ah, au] at n3)
    have K3 := Kp.trans kp k3
    have g3 := (k3.get σ.next (by first | omega | (simp only [ah]; omega))).trans (dD)
    cases c3 : (gq a) with
    | false =>
     refine nH a0 g3 (nQ 2 1) (eQ 2) c1 c2 c3 ?_
     refine fQ a0 ?_
     exact ⟨by simp [d1, c2, c3], K3⟩
    | true =>
     refine nH a0 g3 (nQ 2 1) (eQ 2) c1 c2 c3 ?_
     refine aj (aU a0) ?_
     have q4 : ∀ B, Kp σ (σ3.push B) := fun B => K3.push B
     refine C.mono (rY (n := 0) (l := [kids.length, on.length]) (show 2 ≤ 1000 by decide) aA) ?_
     rintro _ σ4 ⟨rfl, k4⟩
     have n4 := k4.next
     (try simp only [ah, au] at n4)
     have K4 := Kp.trans (q4 _) k4
     have g4 := (k4.get σ.next (by first | omega | (simp only [ah]; omega))).trans ((aC (by omega)).trans g3)
     cases c4 : (kS 0 [kids.length, on.length]) with
     | false =>
      refine aY a0 g4 (nQ 2 1) (eQ 2) c1 c2 c3 c4 ?_
      refine fQ a0 ?_
      exact ⟨by simp [d1, c2, c3, c4], K4⟩
     | true =>
      cases c5 : ((q.length : Int) == 1) with
      | false =>
       have d5 : (q.length == 1) = false := by rw [← c5]; exact dK _ _
       refine aY a0 g4 (nQ 2 1) (eQ 2) c1 c2 c3 (cJ c4 c5) ?_
       refine fQ a0 ?_
       exact ⟨by simp [d1, c2, c3, c4, d5], K4⟩
      | true =>
       have d5 : (q.length == 1) = true := by rw [← c5]; exact dK _ _
       refine aY a0 g4 (nQ 2 1) (eQ 2) c1 c2 c3 (cJ c4 c5) ?_
       refine aj (aU a0) ?_
       refine C.mono (ql (R := (eP T m).q) (fs := []) (cs := []) (by omega) (fun p hp => kL (Zy.2 p hp)) (fun p hp x => hQ p (Zy.2 p hp) x) _ (bW.kp r1 K4)) ?_
       rintro _ σ6 ⟨rfl, k6⟩
       have n6 := k6.next
       (try simp only [ah, au] at n6)
       have K6 := Kp.trans K4 k6
       have g6 := (k6.get σ.next (by first | omega | (simp only [ah]; omega))).trans g4
       refine aY a0 g6 (nQ 2 1) (eQ 2) c1 c2 c3 (cJ c4 c5) ?_
       refine fQ a0 ?_
       exact ⟨by simp [d1, c2, c3, c4, d5], K6⟩
 by_cases e3 : k = 3
 ·subst e3
  have eR : yJ (eP T m) 3 v t a q kids on = (decide (t = eB) && !v && decide (a = eB) && q.length == 0 && on.length == 1 && kids.length == 2 && wu (kids.getD 1 zE) && kids.all (eP T m).f && ([on].all fun l => l.all (eP T m).e)) := rfl
  rw [eR]
  cases c1 : (decide (t = (⟨#[]⟩ : ByteArray))) with
  | false =>
   have d1 : decide (t = eB) = false := c1
   refine jy a0 (nQ 3 1) (nQ 3 2) (eQ 3) c1 ?_
   refine fQ a0 ?_
   exact ⟨by simp [d1], kp⟩
  | true =>
   have d1 : decide (t = eB) = true := c1
   cases c2 : (!v) with
   | false =>
    refine kR a0 (nQ 3 1) (nQ 3 2) (eQ 3) c1 c2 ?_
    refine fQ a0 ?_
    exact ⟨by simp [d1, c2], kp⟩
   | true =>
    cases c3 : (decide (a = (⟨#[]⟩ : ByteArray))) with
    | false =>
     have d3 : decide (a = eB) = false := c3
     refine nH a0 (nQ 3 1) (nQ 3 2) (eQ 3) c1 c2 c3 ?_
     refine fQ a0 ?_
     exact ⟨by simp [d1, c2, d3], kp⟩
    | true =>
     have d3 : decide (a = eB) = true := c3
     cases c4 : ((q.length : Int) == 0) with
     | false =>
      have d4 : (q.length == 0) = false := by rw [← c4]; exact dK _ _
      refine aY a0 (nQ 3 1) (nQ 3 2) (eQ 3) c1 c2 c3 c4 ?_
      refine fQ a0 ?_
      exact ⟨by simp [d1, c2, d3, d4], kp⟩
     | true =>
      have d4 : (q.length == 0) = true := by rw [← c4]; exact dK _ _
      cases c5 : ((on.length : Int) == 1) with
      | false =>
       have d5 : (on.length == 1) = false := by rw [← c5]; exact dK _ _
       refine aY a0 (nQ 3 1) (nQ 3 2) (eQ 3) c1 c2 c3 (cJ c4 c5) ?_
       refine fQ a0 ?_
       exact ⟨by simp [d1, c2, d3, d4, d5], kp⟩
      | true =>
       have d5 : (on.length == 1) = true := by rw [← c5]; exact dK _ _
       cases c6 : ((kids.length : Int) == 2) with
       | false =>
        have d6 : (kids.length == 2) = false := by rw [← c6]; exact dK _ _
        refine aY a0 (nQ 3 1) (nQ 3 2) (eQ 3) c1 c2 c3 (cJ c4 (cJ c5 c6)) ?_
        refine fQ a0 ?_
        exact ⟨by simp [d1, c2, d3, d4, d5, d6], kp⟩
       | true =>
        have d6 : (kids.length == 2) = true := by rw [← c6]; exact dK _ _
        have hk2 : kids.length = 2 := beq_iff_eq.1 d6
        have hg1 : kids.getD 1 zE = kids[1] := Ci (by omega)
        rw [hg1]
        obtain ⟨k1, v1, t1, a1, q1, aeb, on1, hq1⟩ := Zr (hkl.2 _ (List.getElem_mem (show 1 < kids.length by omega)))
        obtain ⟨bb, o, qq, c, cs, l, e, hrow, hel, htk, hx1, hl, ho⟩ := kG (bW.kp r2 kp) yE (j := 1) rfl (i := 1) (by omega) (wF (hkl.2 _ (List.getElem_mem _)))
        have hr1 := hrow _ (Kp.refl _)
        injection e with e _ _
        subst e
        have hal : ∀ x, bV (bW kids[1] x) 164 [x] (wu kids[1]) := fun x => by rw [hq1]; exact MJ
        refine iC hr1 a0 (nQ 3 1) (nQ 3 2) (eQ 3) hel htk hl (cJ ho (cJ c1 (cJ c2 (cJ c3 (cJ c4 (cJ c5 c6)))))) ?_
        refine aj (aU a0) ?_
        refine C.mono (hal _ _ hx1) ?_
        rintro _ σ7 ⟨rfl, k7⟩
        have n7 := k7.next
        (try simp only [ah, au] at n7)
        have K7 := Kp.trans kp k7
        have g7 := (k7.get σ.next (by first | omega | (simp only [ah]; omega))).trans (dD)
        cases c7 : (wu kids[1]) with
        | false =>
         refine iC hr1 a0 g7 (nQ 3 1) (nQ 3 2) (eQ 3) hel htk (cJ hl (cJ ho (cJ c1 (cJ c2 (cJ c3 (cJ c4 (cJ c5 (cJ c6 c7)))))))) ?_
         refine fQ a0 ?_
         exact ⟨by simp [d1, c2, d3, d4, d5, d6, c7], K7⟩
        | true =>
         refine aY a0 g7 (nQ 3 1) (nQ 3 2) (eQ 3) c1 c2 (cJ c3 (cJ c4 (cJ c5 (cJ c6 c7)))) ?_
         refine aj (aU a0) ?_
         refine C.mono (vw (R := (eP T m).f) (fs := []) (cs := []) (by omega) (fun p hp => wF (hkl.2 p hp)) (fun p hp x => hF p (hkl.2 p hp) x) _ (bW.kp r2 K7)) ?_
         rintro _ σ8 ⟨rfl, k8⟩
         have n8 := k8.next
         (try simp only [ah, au] at n8)
         have K8 := Kp.trans K7 k8
         have g8 := (k8.get σ.next (by first | omega | (simp only [ah]; omega))).trans g7
         cases c8 : (kids.all (eP T m).f) with
         | false =>
          refine aY a0 g8 (nQ 3 1) (nQ 3 2) (eQ 3) c1 c2 (cJ c3 (cJ c4 (cJ c5 (cJ c6 (cJ c7 c8))))) ?_
          refine fQ a0 ?_
          exact ⟨by simp [d1, c2, d3, d4, d5, d6, c7, c8], K8⟩
         | true =>
          refine aY a0 g8 (nQ 3 1) (nQ 3 2) (eQ 3) c1 c2 (cJ c3 (cJ c4 (cJ c5 (cJ c6 (cJ c7 c8))))) ?_
          refine aj (aU a0) ?_
          have q9 : ∀ B, Kp σ (σ8.push B) := fun B => K8.push B
          have z1 : ∀ l ∈ [on], l.length ≤ 4611686018427387904 := fun l hl => by rw [List.mem_singleton.1 hl]; omega
          have z2 : ∀ l ∈ [on], ∀ p ∈ l, ShT 6 p := fun l hl p hp => by rw [List.mem_singleton.1 hl] at hp; exact tN (hol.2 p hp)
          have z3 : ∀ l ∈ [on], ∀ p ∈ l, ∀ x, bV (bW p x) 21 [x] ((eP T m).e p) := fun l hl p hp x => by rw [List.mem_singleton.1 hl] at hp; exact hE p (hol.2 p hp) x
          have z4 : bW (sl 1 ([on].map (sl 6))) (.slice (some ⟨σ8.next, 0, none⟩) 1 2) (σ8.push ⟨1, 39, 1, [.slice ao on.length co]⟩) := vg (vs := [.slice ao on.length co]) aA (by decide) (Nat.lt_succ_self _) ⟨_, _, rfl, bW.kp r3 (q9 _), rfl⟩ (fun v hv => by rw [List.mem_singleton.1 hv]; rfl)
          refine C.mono (oC (ls := [on]) (R := (eP T m).e) (show 1 ≤ 1000000 by decide) z1 z2 z3 _ z4) ?_
          rintro _ σ9 ⟨rfl, k9⟩
          have n9 := k9.next
          (try simp only [ah, au] at n9)
          have K9 := Kp.trans (q9 _) k9
          have g9 := (k9.get σ.next (by first | omega | (simp only [ah]; omega))).trans ((aC (by omega)).trans g8)
          refine aY a0 g9 (nQ 3 1) (nQ 3 2) (eQ 3) c1 c2 (cJ c3 (cJ c4 (cJ c5 (cJ c6 (cJ c7 c8))))) ?_
          refine fQ a0 ?_
          exact ⟨by simp [d1, c2, d3, d4, d5, d6, c7, c8], K9⟩
 by_cases e4 : k = 4
 ·subst e4
  have eR : yJ (eP T m) 4 v t a q kids on = (decide (t = eB) && !v && decide (a = eB) && q.length == 0 && on.length == 1 && kids.length == 2 && wu (kids.getD 1 zE) && kids.all (eP T m).f && ([on].all fun l => l.all (eP T m).e)) := rfl
  rw [eR]
  cases c1 : (decide (t = (⟨#[]⟩ : ByteArray))) with
  | false =>
   have d1 : decide (t = eB) = false := c1
   refine kR a0 (nQ 4 1) (nQ 4 2) (nQ 4 3) (eQ 4) c1 ?_
   refine fQ a0 ?_
   exact ⟨by simp [d1], kp⟩
  | true =>
   have d1 : decide (t = eB) = true := c1
   cases c2 : (!v) with
   | false =>
    refine nH a0 (nQ 4 1) (nQ 4 2) (nQ 4 3) (eQ 4) c1 c2 ?_
    refine fQ a0 ?_
    exact ⟨by simp [d1, c2], kp⟩
   | true =>
    cases c3 : (decide (a = (⟨#[]⟩ : ByteArray))) with
    | false =>
     have d3 : decide (a = eB) = false := c3
     refine aY a0 (nQ 4 1) (nQ 4 2) (nQ 4 3) (eQ 4) c1 c2 c3 ?_
     refine fQ a0 ?_
     exact ⟨by simp [d1, c2, d3], kp⟩
    | true =>
     have d3 : decide (a = eB) = true := c3
     cases c4 : ((q.length : Int) == 0) with
     | false =>
      have d4 : (q.length == 0) = false := by rw [← c4]; exact dK _ _
      refine aY a0 (nQ 4 1) (nQ 4 2) (nQ 4 3) (eQ 4) c1 c2 (cJ c3 c4) ?_
      refine fQ a0 ?_
      exact ⟨by simp [d1, c2, d3, d4], kp⟩
     | true =>
      have d4 : (q.length == 0) = true := by rw [← c4]; exact dK _ _
      cases c5 : ((on.length : Int) == 1) with
      | false =>
       have d5 : (on.length == 1) = false := by rw [← c5]; exact dK _ _
       refine aY a0 (nQ 4 1) (nQ 4 2) (nQ 4 3) (eQ 4) c1 c2 (cJ c3 (cJ c4 c5)) ?_
       refine fQ a0 ?_
       exact ⟨by simp [d1, c2, d3, d4, d5], kp⟩
      | true =>
       have d5 : (on.length == 1) = true := by rw [← c5]; exact dK _ _
       cases c6 : ((kids.length : Int) == 2) with
       | false =>
        have d6 : (kids.length == 2) = false := by rw [← c6]; exact dK _ _
        refine aY a0 (nQ 4 1) (nQ 4 2) (nQ 4 3) (eQ 4) c1 c2 (cJ c3 (cJ c4 (cJ c5 c6))) ?_
        refine fQ a0 ?_
        exact ⟨by simp [d1, c2, d3, d4, d5, d6], kp⟩
       | true =>
        have d6 : (kids.length == 2) = true := by rw [← c6]; exact dK _ _
        have hk2 : kids.length = 2 := beq_iff_eq.1 d6
        have hg1 : kids.getD 1 zE = kids[1] := Ci (by omega)
        rw [hg1]
        obtain ⟨k1, v1, t1, a1, q1, aeb, on1, hq1⟩ := Zr (hkl.2 _ (List.getElem_mem (show 1 < kids.length by omega)))
        obtain ⟨bb, o, qq, c, cs, l, e, hrow, hel, htk, hx1, hl, ho⟩ := kG (bW.kp r2 kp) yE (j := 1) rfl (i := 1) (by omega) (wF (hkl.2 _ (List.getElem_mem _)))
        have hr1 := hrow _ (Kp.refl _)
        injection e with e _ _
        subst e
        have hal : ∀ x, bV (bW kids[1] x) 164 [x] (wu kids[1]) := fun x => by rw [hq1]; exact MJ
        refine iC hr1 a0 (nQ 4 1) (nQ 4 2) (nQ 4 3) (eQ 4) hel htk (cJ hl (cJ ho (cJ c1 (cJ c2 (cJ c3 (cJ c4 (cJ c5 c6))))))) ?_
        refine aj (aU a0) ?_
        refine C.mono (hal _ _ hx1) ?_
        rintro _ σ7 ⟨rfl, k7⟩
        have n7 := k7.next
        (try simp only [ah, au] at n7)
        have K7 := Kp.trans kp k7
        have g7 := (k7.get σ.next (by first | omega | (simp only [ah]; omega))).trans (dD)
        cases c7 : (wu kids[1]) with
        | false =>
         refine iC hr1 a0 g7 (nQ 4 1) (nQ 4 2) (nQ 4 3) (eQ 4) hel (cJ htk (cJ hl (cJ ho (cJ c1 (cJ c2 (cJ c3 (cJ c4 (cJ c5 (cJ c6 c7))))))))) ?_
         refine fQ a0 ?_
         exact ⟨by simp [d1, c2, d3, d4, d5, d6, c7], K7⟩
        | true =>
         refine aY a0 g7 (nQ 4 1) (nQ 4 2) (nQ 4 3) (eQ 4) c1 (cJ c2 (cJ c3 (cJ c4 (cJ c5 (cJ c6 c7))))) ?_
         refine aj (aU a0) ?_
         refine C.mono (vw (R := (eP T m).f) (fs := []) (cs := []) (by omega) (fun p hp => wF (hkl.2 p hp)) (fun p hp x => hF p (hkl.2 p hp) x) _ (bW.kp r2 K7)) ?_
         rintro _ σ8 ⟨rfl, k8⟩
         have n8 := k8.next
         (try simp only [ah, au] at n8)
         have K8 := Kp.trans K7 k8
         have g8 := (k8.get σ.next (by first | omega | (simp only [ah]; omega))).trans g7
         cases c8 : (kids.all (eP T m).f) with
         | false =>
          refine aY a0 g8 (nQ 4 1) (nQ 4 2) (nQ 4 3) (eQ 4) c1 (cJ c2 (cJ c3 (cJ c4 (cJ c5 (cJ c6 (cJ c7 c8)))))) ?_
          refine fQ a0 ?_
          exact ⟨by simp [d1, c2, d3, d4, d5, d6, c7, c8], K8⟩
         | true =>
          refine aY a0 g8 (nQ 4 1) (nQ 4 2) (nQ 4 3) (eQ 4) c1 (cJ c2 (cJ c3 (cJ c4 (cJ c5 (cJ c6 (cJ c7 c8)))))) ?_
          refine aj (aU a0) ?_
          have q9 : ∀ B, Kp σ (σ8.push B) := fun B => K8.push B
          have z1 : ∀ l ∈ [on], l.length ≤ 4611686018427387904 := fun l hl => by rw [List.mem_singleton.1 hl]; omega
          have z2 : ∀ l ∈ [on], ∀ p ∈ l, ShT 6 p := fun l hl p hp => by rw [List.mem_singleton.1 hl] at hp; exact tN (hol.2 p hp)
          have z3 : ∀ l ∈ [on], ∀ p ∈ l, ∀ x, bV (bW p x) 21 [x] ((eP T m).e p) := fun l hl p hp x => by rw [List.mem_singleton.1 hl] at hp; exact hE p (hol.2 p hp) x
          have z4 : bW (sl 1 ([on].map (sl 6))) (.slice (some ⟨σ8.next, 0, none⟩) 1 2) (σ8.push ⟨1, 39, 1, [.slice ao on.length co]⟩) := vg (vs := [.slice ao on.length co]) aA (by decide) (Nat.lt_succ_self _) ⟨_, _, rfl, bW.kp r3 (q9 _), rfl⟩ (fun v hv => by rw [List.mem_singleton.1 hv]; rfl)
          refine C.mono (oC (ls := [on]) (R := (eP T m).e) (show 1 ≤ 1000000 by decide) z1 z2 z3 _ z4) ?_
          rintro _ σ9 ⟨rfl, k9⟩
          have n9 := k9.next
          (try simp only [ah, au] at n9)
          have K9 := Kp.trans (q9 _) k9
          have g9 := (k9.get σ.next (by first | omega | (simp only [ah]; omega))).trans ((aC (by omega)).trans g8)
          refine aY a0 g9 (nQ 4 1) (nQ 4 2) (nQ 4 3) (eQ 4) c1 (cJ c2 (cJ c3 (cJ c4 (cJ c5 (cJ c6 (cJ c7 c8)))))) ?_
          refine fQ a0 ?_
          exact ⟨by simp [d1, c2, d3, d4, d5, d6, c7, c8], K9⟩
 have c1 : (k == 1) = false := by simp only [beq_eq_false_iff_ne]; exact e1
 have c2 : (k == 2) = false := by simp only [beq_eq_false_iff_ne]; exact e2
 have c3 : (k == 3) = false := by simp only [beq_eq_false_iff_ne]; exact e3
 have c4 : (k == 4) = false := by simp only [beq_eq_false_iff_ne]; exact e4
 refine jy a0 c1 c2 c3 c4 ?_
 refine dG ?_
 exact ⟨by simp [yJ, e1, e2, e3, e4], kp⟩
end Go.Proofs.YthogkmcahnkkoaaGreatDoor
