/- Which statements package unparse takes for right. -/
import Derived.Test.YthogkmcahnkkoaaGreatDoorJ38
namespace Go.Proofs.YthogkmcahnkkoaaGreatDoor
open Go.RowKit
set_option maxRecDepth 10000
set_option linter.unusedSimpArgs false
set_option linter.unusedVariables false
set_option maxHeartbeats 8000000
section
variable {P : Program} {d : Option Tmp} {ty : TypeId} {po : String} {af : Array Edge} {op : Op} {all : List Oper} {x : Oper} {j : Nat} {want : Bool} {t : Tmp} {pd : List (Nat × Fr × Value)} {st : List (Nat × AW)}
theorem lU {i f : Nat} {B : Fr} {τ : AW} {v g : Value} (h1 : all[i]? = some ⟨d, op, ty, po, af, some (j, want)⟩) (h2 : EF i pd = some (B, v)) (h3 : EF f st = some τ) (hx : all[j]? = some x) (hd : x.dst = some t) (hg : B.get t = some g) (hk : GX (wY op = false ∧ kQ P B τ ⟨d, op, ty, po, af, some (j, want)⟩ = some (v, τ)) (v = undef) want g) : qw P all pd st (i, f) := by
 have no : eY all B ⟨d, op, ty, po, af, some (j, want)⟩ = some false → v = undef → qw P all pd st (i, f) := fun hw e => by subst e; exact ⟨_, B, undef, τ, h1, h2, h3, P5 hw⟩
 unfold GX at hk
 split at hk
 ·exact KR h1 h2 h3 hx hd hg hk.1 hk.2
 ·exact KR h1 h2 h3 hx hd hg hk.1 hk.2
 ·exact no (Bz hx hd hg) hk
 ·exact no (Bz hx hd hg) hk
 ·exact no (by simp only [eY, hx, hd, hg]) hk
 ·exact hk.elim
end
theorem Ir (l m : List Nat) : decide (some l = some m) = decide ((m.map fun x : Nat => (x : Int)) = l.map fun x : Nat => (x : Int)) := by
 by_cases h : l = m
 ·subst h; simp
 ·rw [decide_eq_false (fun e => h (Option.some.inj e)), decide_eq_false]
  intro e
  apply h
  have inj : ∀ (l m : List Nat), (m.map fun x : Nat => (x : Int)) = (l.map fun x : Nat => (x : Int)) → l = m := by
   intro l
   induction l with
   | nil => intro m e; cases m with
    | nil => rfl
    | cons a m => cases e
   | cons a l ih => intro m e; cases m with
    | nil => cases e
    | cons b m =>
     simp only [List.map_cons, List.cons.injEq] at e
     rw [ih m e.2, show b = a by omega]
  exact inj l m e
theorem TW {k : Int} {names es wh body other : List Tr} {w : List Nat} (h : xK k names es wh body other = some w) : ∃ w0 w1 w2 w3 w4 w5 w6, w = [w0, w1, w2, w3, w4, w5, w6] := by
 unfold xK at h
 by_cases k1 : k = 1
 ·rw [if_pos k1] at h; injection h with h; subst h; exact ⟨_, _, _, _, _, _, _, rfl⟩
 rw [if_neg k1] at h
 by_cases k17 : k = 17
 ·rw [if_pos k17] at h; injection h with h; subst h; exact ⟨_, _, _, _, _, _, _, rfl⟩
 rw [if_neg k17] at h
 by_cases k2 : k = 2
 ·rw [if_pos k2] at h; injection h with h; subst h; exact ⟨_, _, _, _, _, _, _, rfl⟩
 rw [if_neg k2] at h
 by_cases k3 : k = 3
 ·rw [if_pos k3] at h; injection h with h; subst h; exact ⟨_, _, _, _, _, _, _, rfl⟩
 rw [if_neg k3] at h
 by_cases k4 : k = 4
 ·rw [if_pos k4] at h; injection h with h; subst h; exact ⟨_, _, _, _, _, _, _, rfl⟩
 rw [if_neg k4] at h
 by_cases k10 : k = 10
 ·rw [if_pos k10] at h; injection h with h; subst h; exact ⟨_, _, _, _, _, _, _, rfl⟩
 rw [if_neg k10] at h
 by_cases k5 : k = 5
 ·rw [if_pos k5] at h; injection h with h; subst h; exact ⟨_, _, _, _, _, _, _, rfl⟩
 rw [if_neg k5] at h
 by_cases k6 : k = 6
 ·rw [if_pos k6] at h; injection h with h; subst h; exact ⟨_, _, _, _, _, _, _, rfl⟩
 rw [if_neg k6] at h
 by_cases k7 : k = 7
 ·rw [if_pos k7] at h; injection h with h; subst h; exact ⟨_, _, _, _, _, _, _, rfl⟩
 rw [if_neg k7] at h
 by_cases k8 : k = 8
 ·rw [if_pos k8] at h; injection h with h; subst h; exact ⟨_, _, _, _, _, _, _, rfl⟩
 rw [if_neg k8] at h
 by_cases k9 : k = 9
 ·rw [if_pos k9] at h; injection h with h; subst h; exact ⟨_, _, _, _, _, _, _, rfl⟩
 rw [if_neg k9] at h
 by_cases k12 : k = 12
 ·rw [if_pos k12] at h; injection h with h; subst h; exact ⟨_, _, _, _, _, _, _, rfl⟩
 rw [if_neg k12] at h
 by_cases kl : k = 11 ∨ k = 13 ∨ k = 14 ∨ k = 15 ∨ k = 16
 ·rw [if_pos kl] at h; injection h with h; subst h; exact ⟨_, _, _, _, _, _, _, rfl⟩
 rw [if_neg kl] at h
 cases h
theorem ZN {T : ByteArray → Bool} {m : Nat} (hE : ∀ p, (bT b0 m).e p → ∀ x, bV (bW p x) 21 [x] ((eP T m).e p)) (hQ : ∀ p, (bT b0 m).q p → ∀ x, bV (bW p x) 53 [x] ((eP T m).q p)) (hF : ∀ p, (bT b0 m).f p → ∀ x, bV (bW p x) 131 [x] ((eP T m).f p)) (hSt : ∀ p, vF b0 m p → ∀ x, bV (bW p x) 32 [x] (SK T m p)) {k at0 : Int} {t : ByteArray} {names es qs wh body other : List Tr} (hts : SS b0 t) (hln : LL b0 (KN b0) names) (hle : LL b0 (bT b0 m).e es) (hlq : LL b0 (bT b0 m).q qs) (XR : LL b0 (bT b0 m).e wh) (hlb : LL b0 (vF b0 m) body) (hlo : LL b0 (vF b0 m) other) {x : Value} :
  bV (bW (mkS k at0 t names es qs wh body other) x) 32 [x] (oP (eP T m) (SK T m) k t names es qs wh body other) := by
 intro σ hx
 obtain ⟨v1, v2, v3, v4, v5, v6, rfl, r1, r2, r3, r4, r5, r6⟩ := sJ hx
 obtain ⟨a1, jA, rfl⟩ := aG r1
 obtain ⟨a2, jc, rfl⟩ := aG r2
 obtain ⟨a3, jT, rfl⟩ := aG r3
 obtain ⟨a4, mF, rfl⟩ := aG r4
 obtain ⟨a5, mX, rfl⟩ := aG r5
 obtain ⟨a6, ng, rfl⟩ := aG r6
 refine pK Tryz.func32 Tryz.ntmps32 Tryz.results32 fun A hz a0 => ?_
 have ht0 : t.size ≤ 1200 := hts
 have i1 : names.length ≤ 1000 := hln.1
 have i2 : es.length ≤ 1000 := hle.1
 have i3 : qs.length ≤ 1000 := hlq.1
 have i4 : wh.length ≤ 1000 := XR.1
 have i5 : body.length ≤ 1000 := hlb.1
 have i6 : other.length ≤ 1000 := hlo.1
 have kp : Kp σ (σ.push ⟨1, 54, 0, [.int .i64 k, .int .i64 at0, .string t, .slice a1 names.length jA, .slice a2 es.length jc, .slice a3 qs.length jT, .slice a4 wh.length mF, .slice a5 body.length mX, .slice a6 other.length ng]⟩) := (Kp.refl σ).push _
 have z1 : ∀ l ∈ [es, wh], l.length ≤ 4611686018427387904 := fun l hl => by
  simp only [List.mem_cons, List.not_mem_nil, or_false] at hl
  rcases hl with rfl | rfl <;> omega
 have zz3 : ∀ l ∈ [es, wh], ∀ p ∈ l, (bT b0 m).e p := fun l hl p hp => by
  simp only [List.mem_cons, List.not_mem_nil, or_false] at hl
  rcases hl with rfl | rfl
  ·exact hle.2 p hp
  ·exact XR.2 p hp
 have z2 : ∀ l ∈ [es, wh], ∀ p ∈ l, ShT 6 p := fun l hl p hp => tN (zz3 l hl p hp)
 have z3 : ∀ l ∈ [es, wh], ∀ p ∈ l, ∀ x, bV (bW p x) 21 [x] ((eP T m).e p) := fun l hl p hp x => hE p (zz3 l hl p hp) x
 have hnm : ∀ p ∈ names, ∀ x, bV (bW p x) 47 [x] (gq (fM p)) := fun p hp x σ hx => by
  obtain ⟨s, rfl, hs⟩ := hln.2 p hp
  have hs' : s.size ≤ 1200 := hs
  rw [jQ.1 hx]
  exact pU s (by omega) σ trivial
 refine jR a0 ?_
 refine aj (aU a0) ?_
 refine C.mono (Xj (bW.kp (tY r1 r2 r3 r4 r5 r6) kp)) ?_
 rintro _ σ1 ⟨rfl, k1⟩
 have n1 := k1.next
 rw [ah] at n1
 have g1 := (k1.get σ.next (Nat.lt_succ_self _)).trans aA
 cases hw : xK k names es wh body other with
 | none =>
  have ew : FP ((none : Option (List Nat)).getD [0, 0, 0, 0, 0, 0, 0]) = .agg ⟨[.int .i64 0, .int .i64 0, .int .i64 0, .int .i64 0, .int .i64 0, .int .i64 0, .int .i64 0]⟩ := rfl
  have eb : (none : Option (List Nat)).isSome = false := rfl
  rw [ew, eb]
  refine jR a0 ?_
  obtain ⟨τ, hτ, kt, gN, gM, nx⟩ : ∃ τ, τ = (σ1.push ⟨1, 118, 0, [.int .i64 0, .int .i64 0, .int .i64 0, .int .i64 0, .int .i64 0, .int .i64 0, .int .i64 0]⟩).set σ1.next ⟨1, 118, 0, [.int .i64 0, .int .i64 0, .int .i64 0, .int .i64 0, .int .i64 0, .int .i64 0, .int .i64 0]⟩ ∧ Kp σ τ ∧ τ.get σ.next = ⟨1, 54, 0, [.int .i64 k, .int .i64 at0, .string t, .slice a1 names.length jA, .slice a2 es.length jc, .slice a3 qs.length jT, .slice a4 wh.length mF, .slice a5 body.length mX, .slice a6 other.length ng]⟩ ∧ τ.get σ1.next = ⟨1, 118, 0, [.int .i64 0, .int .i64 0, .int .i64 0, .int .i64 0, .int .i64 0, .int .i64 0, .int .i64 0]⟩ ∧ τ.next = σ1.next + 1 := ⟨_, rfl, ((kp.trans k1).push _).set (by omega) _, (aU g1), bF, rfl⟩
  rw [← hτ]
  refine bY mixed (by kernel_rfl) (by kernel_rfl) ?_
  repeat (first | (apply wK; (focus (first | exact lF a0 gN gM | fail)); first | refine fB ?_ | refine fC ?_ | refine fD ?_) | (refine' qm rfl rfl ?_ ?_; rotate_left; (focus (first | exact lF a0 gN gM | fail)); first | with_reducible apply g_1 | ((with_reducible first | apply g_2 | apply jO | apply lV); first | refine fB ?_ | refine fC ?_ | refine fD ?_)))
  refine oW [(2, 0), (4, 0), (4, 4), (9, 4), (13, 4), (19, 15), (24, 21), (26, 21), (32, 29), (37, 34), (42, 39)] ?_ ?_
  ·(repeat (first | refine aO (bg rfl rfl rfl rfl rfl (lF a0 gN gM)) ?_ | (refine' aO (lU rfl rfl rfl rfl rfl ?hg ?hk) ?_; (case hg => (first | exact lF a0 gN gM | fail)); (case hk => first | (with_reducible apply g_1; exact ⟨rfl, (lF a0 gN gM)⟩) | ((with_reducible first | apply g_2 | apply jO | apply lV); rfl))))); exact bn
  refine dS a0 gN gM ?_
  refine fQ a0 ?_
  exact ⟨by simp [oP, hw], kt⟩
 | some w =>
  obtain ⟨w0, w1, w2, w3, w4, w5, w6, rfl⟩ := TW hw
  have ew : FP ((some [w0, w1, w2, w3, w4, w5, w6] : Option (List Nat)).getD [0, 0, 0, 0, 0, 0, 0]) = .agg ⟨[.int .i64 (w0 : Int), .int .i64 (w1 : Int), .int .i64 (w2 : Int), .int .i64 (w3 : Int), .int .i64 (w4 : Int), .int .i64 (w5 : Int), .int .i64 (w6 : Int)]⟩ := rfl
  have eb : (some [w0, w1, w2, w3, w4, w5, w6] : Option (List Nat)).isSome = true := rfl
  rw [ew, eb]
  refine jR a0 ?_
  obtain ⟨τ, hτ, kt, gN, gM, nx⟩ : ∃ τ, τ = (σ1.push ⟨1, 118, 0, [.int .i64 0, .int .i64 0, .int .i64 0, .int .i64 0, .int .i64 0, .int .i64 0, .int .i64 0]⟩).set σ1.next ⟨1, 118, 0, [.int .i64 (w0 : Int), .int .i64 (w1 : Int), .int .i64 (w2 : Int), .int .i64 (w3 : Int), .int .i64 (w4 : Int), .int .i64 (w5 : Int), .int .i64 (w6 : Int)]⟩ ∧ Kp σ τ ∧ τ.get σ.next = ⟨1, 54, 0, [.int .i64 k, .int .i64 at0, .string t, .slice a1 names.length jA, .slice a2 es.length jc, .slice a3 qs.length jT, .slice a4 wh.length mF, .slice a5 body.length mX, .slice a6 other.length ng]⟩ ∧ τ.get σ1.next = ⟨1, 118, 0, [.int .i64 (w0 : Int), .int .i64 (w1 : Int), .int .i64 (w2 : Int), .int .i64 (w3 : Int), .int .i64 (w4 : Int), .int .i64 (w5 : Int), .int .i64 (w6 : Int)]⟩ ∧ τ.next = σ1.next + 1 := ⟨_, rfl, ((kp.trans k1).push _).set (by omega) _, (aU g1), bF, rfl⟩
  rw [← hτ]
  refine bY mixed (by kernel_rfl) (by kernel_rfl) ?_
  repeat (first | (apply wK; (focus (first | exact lF a0 gN gM | fail)); first | refine fB ?_ | refine fC ?_ | refine fD ?_) | (refine' qm rfl rfl ?_ ?_; rotate_left; (focus (first | exact lF a0 gN gM | fail)); first | with_reducible apply g_1 | ((with_reducible first | apply g_2 | apply jO | apply lV); first | refine fB ?_ | refine fC ?_ | refine fD ?_)))
  refine bD (aU a0) ?_
  refine C.mono (TP (bW.kp (tY r1 r2 r3 r4 r5 r6) kt)) ?_
  rintro _ σ2 ⟨rfl, k2⟩
  have n2 := k2.next
  (try simp only [ah, au] at n2)
  have K2 := kt.trans k2
  have jD := (k2.get (σ.next) (by first | omega | (simp only [ah]; omega))).trans (gN)
  have jE := (k2.get (σ1.next) (by first | omega | (simp only [ah]; omega))).trans (gM)
  have ep : FP (uy t names es qs wh body other) = .agg ⟨[.int .i64 ((if t = eB then 0 else 1 : Nat) : Int), .int .i64 (names.length : Int), .int .i64 (es.length : Int), .int .i64 (qs.length : Int), .int .i64 (wh.length : Int), .int .i64 (body.length : Int), .int .i64 (other.length : Int)]⟩ := rfl
  rw [ep]
  cases c3 : (decide ([((if t = eB then 0 else 1 : Nat) : Int), (names.length : Int), (es.length : Int), (qs.length : Int), (wh.length : Int), (body.length : Int), (other.length : Int)] = [(w0 : Int), (w1 : Int), (w2 : Int), (w3 : Int), (w4 : Int), (w5 : Int), (w6 : Int)])) with
  | false =>
   have d3 : decide (xK k names es wh body other = some (uy t names es qs wh body other)) = false := by rw [hw, Ir]; exact c3
   repeat (first | (apply wK; (focus (first | exact qx a0 jD jE c3 | fail)); first | refine fB ?_ | refine fC ?_ | refine fD ?_) | (refine' qm rfl rfl ?_ ?_; rotate_left; (focus (first | exact qx a0 jD jE c3 | fail)); first | with_reducible apply g_1 | ((with_reducible first | apply g_2 | apply jO | apply lV); first | refine fB ?_ | refine fC ?_ | refine fD ?_)))
   refine oW [(2, 0), (4, 0), (4, 4), (9, 4), (13, 4), (19, 15), (24, 21), (26, 21), (32, 29), (37, 34), (42, 39)] ?_ ?_
   ·(repeat (first | refine aO (bg rfl rfl rfl rfl rfl (D8 a0 gN gM jD jE c3)) ?_ | (refine' aO (lU rfl rfl rfl rfl rfl ?hg ?hk) ?_; (case hg => (first | exact D8 a0 gN gM jD jE c3 | fail)); (case hk => first | (with_reducible apply g_1; exact ⟨rfl, (D8 a0 gN gM jD jE c3)⟩) | ((with_reducible first | apply g_2 | apply jO | apply lV); rfl))))); exact bn
   refine dV a0 jD jE c3 ?_
   refine fQ a0 ?_
   exact ⟨by simp [oP, d3], K2⟩
  | true =>
   have d3 : decide (xK k names es wh body other = some (uy t names es qs wh body other)) = true := by rw [hw, Ir]; exact c3
   cases c4 : (decide (t = (⟨#[]⟩ : ByteArray))) with
   | true =>
    have d4 : decide (t = eB) = true := c4
    repeat (first | (apply wK; (focus (first | exact NY a0 jD jE c3 c4 | fail)); first | refine fB ?_ | refine fC ?_ | refine fD ?_) | (refine' qm rfl rfl ?_ ?_; rotate_left; (focus (first | exact NY a0 jD jE c3 c4 | fail)); first | with_reducible apply g_1 | ((with_reducible first | apply g_2 | apply jO | apply lV); first | refine fB ?_ | refine fC ?_ | refine fD ?_)))
    refine bD (aU a0) ?_
    refine C.mono (MI (R := fun p => gq (fM p)) (fs := []) (cs := []) (by omega) (fun p hp => (hln.2 p hp).imp fun _ h => h.1) hnm _ (bW.kp r1 K2)) ?_
    rintro _ σ5 ⟨rfl, k5⟩
    have n5 := k5.next
    (try simp only [ah, au] at n5)
    have K5 := K2.trans k5
    have iq := (k5.get (σ.next) (by first | omega | (simp only [ah]; omega))).trans (jD)
    have jC := (k5.get (σ1.next) (by first | omega | (simp only [ah]; omega))).trans (jE)
    cases c5 : (names.all fun p => gq (fM p)) with
    | false =>
     repeat (first | (apply wK; (focus (first | exact D8 a0 iq jC c3 c4 c5 | fail)); first | refine fB ?_ | refine fC ?_ | refine fD ?_) | (refine' qm rfl rfl ?_ ?_; rotate_left; (focus (first | exact D8 a0 iq jC c3 c4 c5 | fail)); first | with_reducible apply g_1 | ((with_reducible first | apply g_2 | apply jO | apply lV); first | refine fB ?_ | refine fC ?_ | refine fD ?_)))
     refine oW [(2, 0), (4, 0), (4, 4), (9, 4), (13, 4), (19, 15), (24, 21), (26, 21), (32, 29), (37, 34), (42, 39)] ?_ ?_
     ·(repeat (first | refine aO (bg rfl rfl rfl rfl rfl (kC a0 gN gM jD jE iq jC (cJ c3 (cJ c4 c5)))) ?_ | (refine' aO (lU rfl rfl rfl rfl rfl ?hg ?hk) ?_; (case hg => (first | exact kC a0 gN gM jD jE iq jC (cJ c3 (cJ c4 c5)) | fail)); (case hk => first | (with_reducible apply g_1; exact ⟨rfl, (kC a0 gN gM jD jE iq jC (cJ c3 (cJ c4 c5)))⟩) | ((with_reducible first | apply g_2 | apply jO | apply lV); rfl))))); exact bn
     refine kR a0 iq jC c3 c4 c5 ?_
     refine fQ a0 ?_
     exact ⟨by simp [oP, d3, d4, c5], K5⟩
    | true =>
     repeat (first | (apply wK; (focus (first | exact D8 a0 iq jC c3 c4 c5 | fail)); first | refine fB ?_ | refine fC ?_ | refine fD ?_) | (refine' qm rfl rfl ?_ ?_; rotate_left; (focus (first | exact D8 a0 iq jC c3 c4 c5 | fail)); first | with_reducible apply g_1 | ((with_reducible first | apply g_2 | apply jO | apply lV); first | refine fB ?_ | refine fC ?_ | refine fD ?_)))
     refine bD (aU a0) ?_
     have q6 : ∀ B, Kp σ (σ5.push B) := fun B => K5.push B
     have Cm : ∀ B, (σ5.push B).get (σ.next) = _ := fun B => (aC (by omega)).trans iq
     have CB : ∀ B, (σ5.push B).get (σ1.next) = _ := fun B => (aC (by omega)).trans jC
     refine C.mono (oC (ls := [es, wh]) (R := (eP T m).e) (show 2 ≤ 1000000 by decide) z1 z2 z3 _ (vg (vs := [.slice a2 es.length jc, .slice a4 wh.length mF]) aA (by decide) (Nat.lt_succ_self _) ⟨_, _, rfl, bW.kp r2 (q6 _), _, _, rfl, bW.kp r4 (q6 _), rfl⟩ (fun v hv => by simp only [List.mem_cons, List.not_mem_nil, or_false] at hv; rcases hv with rfl | rfl <;> rfl))) ?_
     rintro _ σ6 ⟨rfl, k6⟩
     have n6 := k6.next
     (try simp only [ah, au] at n6)
     have K6 := (q6 _).trans k6
     have iY := (k6.get (σ.next) (by first | omega | (simp only [ah]; omega))).trans (Cm _)
     have iZ := (k6.get (σ1.next) (by first | omega | (simp only [ah]; omega))).trans (CB _)
     cases c6 : ([es, wh].all fun l => l.all (eP T m).e) with
     | false =>
      repeat (first | (apply wK; (focus (first | exact Ud a0 iY iZ c3 c4 c5 c6 | fail)); first | refine fB ?_ | refine fC ?_ | refine fD ?_) | (refine' qm rfl rfl ?_ ?_; rotate_left; (focus (first | exact Ud a0 iY iZ c3 c4 c5 c6 | fail)); first | with_reducible apply g_1 | ((with_reducible first | apply g_2 | apply jO | apply lV); first | refine fB ?_ | refine fC ?_ | refine fD ?_)))
      refine oW [(2, 0), (4, 0), (4, 4), (9, 4), (13, 4), (19, 15), (24, 21), (26, 21), (32, 29), (37, 34), (42, 39)] ?_ ?_
      ·(repeat (first | refine aO (bg rfl rfl rfl rfl rfl (kC a0 gN gM jD jE iq jC (cJ Cm (cJ CB (cJ iY (cJ iZ (cJ c3 (cJ c4 (cJ c5 c6))))))))) ?_ | (refine' aO (lU rfl rfl rfl rfl rfl ?hg ?hk) ?_; (case hg => (first | exact kC a0 gN gM jD jE iq jC (cJ Cm (cJ CB (cJ iY (cJ iZ (cJ c3 (cJ c4 (cJ c5 c6))))))) | fail)); (case hk => first | (with_reducible apply g_1; exact ⟨rfl, (kC a0 gN gM jD jE iq jC (cJ Cm (cJ CB (cJ iY (cJ iZ (cJ c3 (cJ c4 (cJ c5 c6))))))))⟩) | ((with_reducible first | apply g_2 | apply jO | apply lV); rfl))))); exact bn
      refine nH a0 iY iZ c3 c4 c5 c6 ?_
      refine fQ a0 ?_
      exact ⟨by simp [oP, d3, d4, c5, c6], K6⟩
     | true =>
      repeat (first | (apply wK; (focus (first | exact Ud a0 iY iZ c3 c4 c5 c6 | fail)); first | refine fB ?_ | refine fC ?_ | refine fD ?_) | (refine' qm rfl rfl ?_ ?_; rotate_left; (focus (first | exact Ud a0 iY iZ c3 c4 c5 c6 | fail)); first | with_reducible apply g_1 | ((with_reducible first | apply g_2 | apply jO | apply lV); first | refine fB ?_ | refine fC ?_ | refine fD ?_)))
      refine bD (aU a0) ?_
      refine C.mono (ql (R := (eP T m).q) (fs := []) (cs := []) (by omega) (fun p hp => kL (hlq.2 p hp)) (fun p hp x => hQ p (hlq.2 p hp) x) _ (bW.kp r3 K6)) ?_
      rintro _ σ7 ⟨rfl, k7⟩
      have n7 := k7.next
      (try simp only [ah, au] at n7)
      have K7 := K6.trans k7
      have iK := (k7.get (σ.next) (by first | omega | (simp only [ah]; omega))).trans (iY)
      have iI := (k7.get (σ1.next) (by first | omega | (simp only [ah]; omega))).trans (iZ)
      cases c7 : (qs.all (eP T m).q) with
      | false =>
       repeat (first | (apply wK; (focus (first | exact kC a0 iK iI c3 c4 c5 c6 c7 | fail)); first | refine fB ?_ | refine fC ?_ | refine fD ?_) | (refine' qm rfl rfl ?_ ?_; rotate_left; (focus (first | exact kC a0 iK iI c3 c4 c5 c6 c7 | fail)); first | with_reducible apply g_1 | ((with_reducible first | apply g_2 | apply jO | apply lV); first | refine fB ?_ | refine fC ?_ | refine fD ?_)))
       refine oW [(2, 0), (4, 0), (4, 4), (9, 4), (13, 4), (19, 15), (24, 21), (26, 21), (32, 29), (37, 34), (42, 39)] ?_ ?_
       ·(repeat (first | refine aO (bg rfl rfl rfl rfl rfl (kC a0 gN gM jD jE iq jC (cJ Cm (cJ CB (cJ iY (cJ iZ (cJ iK (cJ iI (cJ c3 (cJ c4 (cJ c5 (cJ c6 c7)))))))))))) ?_ | (refine' aO (lU rfl rfl rfl rfl rfl ?hg ?hk) ?_; (case hg => (first | exact kC a0 gN gM jD jE iq jC (cJ Cm (cJ CB (cJ iY (cJ iZ (cJ iK (cJ iI (cJ c3 (cJ c4 (cJ c5 (cJ c6 c7)))))))))) | fail)); (case hk => first | (with_reducible apply g_1; exact ⟨rfl, (kC a0 gN gM jD jE iq jC (cJ Cm (cJ CB (cJ iY (cJ iZ (cJ iK (cJ iI (cJ c3 (cJ c4 (cJ c5 (cJ c6 c7)))))))))))⟩) | ((with_reducible first | apply g_2 | apply jO | apply lV); rfl))))); exact bn
       refine aY a0 iK iI c3 c4 c5 c6 c7 ?_
       refine fQ a0 ?_
       exact ⟨by simp [oP, d3, d4, c5, c6, c7], K7⟩
      | true =>
       repeat (first | (apply wK; (focus (first | exact kC a0 iK iI c3 c4 c5 c6 c7 | fail)); first | refine fB ?_ | refine fC ?_ | refine fD ?_) | (refine' qm rfl rfl ?_ ?_; rotate_left; (focus (first | exact kC a0 iK iI c3 c4 c5 c6 c7 | fail)); first | with_reducible apply g_1 | ((with_reducible first | apply g_2 | apply jO | apply lV); first | refine fB ?_ | refine fC ?_ | refine fD ?_)))
       refine bD (aU a0) ?_
       refine C.mono (vC (R := SK T m) (fs := []) (cs := []) (by omega) (fun p hp => JD (hlb.2 p hp)) (fun p hp x => hSt p (hlb.2 p hp) x) _ (bW.kp r5 K7)) ?_
       rintro _ σ8 ⟨rfl, k8⟩
       have n8 := k8.next
       (try simp only [ah, au] at n8)
       have K8 := K7.trans k8
       have jM := (k8.get (σ.next) (by first | omega | (simp only [ah]; omega))).trans (iK)
       have jB := (k8.get (σ1.next) (by first | omega | (simp only [ah]; omega))).trans (iI)
       cases c8 : (body.all (SK T m)) with
       | false =>
        repeat (first | (apply wK; (focus (first | exact kC a0 jM jB c3 c4 c5 c6 (cJ c7 c8) | fail)); first | refine fB ?_ | refine fC ?_ | refine fD ?_) | (refine' qm rfl rfl ?_ ?_; rotate_left; (focus (first | exact kC a0 jM jB c3 c4 c5 c6 (cJ c7 c8) | fail)); first | with_reducible apply g_1 | ((with_reducible first | apply g_2 | apply jO | apply lV); first | refine fB ?_ | refine fC ?_ | refine fD ?_)))
        refine oW [(2, 0), (4, 0), (4, 4), (9, 4), (13, 4), (19, 15), (24, 21), (26, 21), (32, 29), (37, 34), (42, 39)] ?_ ?_
        ·(repeat (first | refine aO (bg rfl rfl rfl rfl rfl (kC a0 gN gM jD jE iq jC (cJ Cm (cJ CB (cJ iY (cJ iZ (cJ iK (cJ iI (cJ jM (cJ jB (cJ c3 (cJ c4 (cJ c5 (cJ c6 (cJ c7 c8))))))))))))))) ?_ | (refine' aO (lU rfl rfl rfl rfl rfl ?hg ?hk) ?_; (case hg => (first | exact kC a0 gN gM jD jE iq jC (cJ Cm (cJ CB (cJ iY (cJ iZ (cJ iK (cJ iI (cJ jM (cJ jB (cJ c3 (cJ c4 (cJ c5 (cJ c6 (cJ c7 c8))))))))))))) | fail)); (case hk => first | (with_reducible apply g_1; exact ⟨rfl, (kC a0 gN gM jD jE iq jC (cJ Cm (cJ CB (cJ iY (cJ iZ (cJ iK (cJ iI (cJ jM (cJ jB (cJ c3 (cJ c4 (cJ c5 (cJ c6 (cJ c7 c8))))))))))))))⟩) | ((with_reducible first | apply g_2 | apply jO | apply lV); rfl))))); exact bn
        refine aY a0 jM jB c3 c4 c5 c6 (cJ c7 c8) ?_
        refine fQ a0 ?_
        exact ⟨by simp [oP, d3, d4, c5, c6, c7, c8], K8⟩
       | true =>
        repeat (first | (apply wK; (focus (first | exact kC a0 jM jB c3 c4 c5 c6 (cJ c7 c8) | fail)); first | refine fB ?_ | refine fC ?_ | refine fD ?_) | (refine' qm rfl rfl ?_ ?_; rotate_left; (focus (first | exact kC a0 jM jB c3 c4 c5 c6 (cJ c7 c8) | fail)); first | with_reducible apply g_1 | ((with_reducible first | apply g_2 | apply jO | apply lV); first | refine fB ?_ | refine fC ?_ | refine fD ?_)))
        refine bD (aU a0) ?_
        refine C.mono (vC (R := SK T m) (fs := []) (cs := []) (by omega) (fun p hp => JD (hlo.2 p hp)) (fun p hp x => hSt p (hlo.2 p hp) x) _ (bW.kp r6 K8)) ?_
        rintro _ σ9 ⟨rfl, k9⟩
        have n9 := k9.next
        (try simp only [ah, au] at n9)
        have K9 := K8.trans k9
        have mD := (k9.get (σ.next) (by first | omega | (simp only [ah]; omega))).trans (jM)
        have lQ := (k9.get (σ1.next) (by first | omega | (simp only [ah]; omega))).trans (jB)
        repeat (first | (apply wK; (focus (first | exact kC a0 mD lQ c3 c4 c5 c6 (cJ c7 c8) | fail)); first | refine fB ?_ | refine fC ?_ | refine fD ?_) | (refine' qm rfl rfl ?_ ?_; rotate_left; (focus (first | exact kC a0 mD lQ c3 c4 c5 c6 (cJ c7 c8) | fail)); first | with_reducible apply g_1 | ((with_reducible first | apply g_2 | apply jO | apply lV); first | refine fB ?_ | refine fC ?_ | refine fD ?_)))
        refine oW [(2, 0), (4, 0), (4, 4), (9, 4), (13, 4), (19, 15), (24, 21), (26, 21), (32, 29), (37, 34), (42, 39)] ?_ ?_
        ·(repeat (first | refine aO (bg rfl rfl rfl rfl rfl (kC a0 gN gM jD jE iq jC (cJ Cm (cJ CB (cJ iY (cJ iZ (cJ iK (cJ iI (cJ jM (cJ jB (cJ mD (cJ lQ (cJ c3 (cJ c4 (cJ c5 (cJ c6 (cJ c7 c8))))))))))))))))) ?_ | (refine' aO (lU rfl rfl rfl rfl rfl ?hg ?hk) ?_; (case hg => (first | exact kC a0 gN gM jD jE iq jC (cJ Cm (cJ CB (cJ iY (cJ iZ (cJ iK (cJ iI (cJ jM (cJ jB (cJ mD (cJ lQ (cJ c3 (cJ c4 (cJ c5 (cJ c6 (cJ c7 c8))))))))))))))) | fail)); (case hk => first | (with_reducible apply g_1; exact ⟨rfl, (kC a0 gN gM jD jE iq jC (cJ Cm (cJ CB (cJ iY (cJ iZ (cJ iK (cJ iI (cJ jM (cJ jB (cJ mD (cJ lQ (cJ c3 (cJ c4 (cJ c5 (cJ c6 (cJ c7 c8))))))))))))))))⟩) | ((with_reducible first | apply g_2 | apply jO | apply lV); rfl))))); exact bn
        refine aY a0 mD lQ c3 c4 c5 c6 (cJ c7 c8) ?_
        refine fQ a0 ?_
        exact ⟨by simp [oP, d3, d4, c5, c6, c7, c8], K9⟩
   | false =>
    have d4 : decide (t = eB) = false := c4
    repeat (first | (apply wK; (focus (first | exact NY a0 jD jE c3 c4 | fail)); first | refine fB ?_ | refine fC ?_ | refine fD ?_) | (refine' qm rfl rfl ?_ ?_; rotate_left; (focus (first | exact NY a0 jD jE c3 c4 | fail)); first | with_reducible apply g_1 | ((with_reducible first | apply g_2 | apply jO | apply lV); first | refine fB ?_ | refine fC ?_ | refine fD ?_)))
    refine bD (aU a0) ?_
    refine C.mono (pU t (by omega) _ trivial) ?_
    rintro _ σ5 ⟨rfl, k5⟩
    have n5 := k5.next
    (try simp only [ah, au] at n5)
    have K5 := K2.trans k5
    have iq := (k5.get (σ.next) (by first | omega | (simp only [ah]; omega))).trans (jD)
    have jC := (k5.get (σ1.next) (by first | omega | (simp only [ah]; omega))).trans (jE)
    cases c5 : (gq t) with
    | false =>
     repeat (first | (apply wK; (focus (first | exact D8 a0 iq jC c3 c4 c5 | fail)); first | refine fB ?_ | refine fC ?_ | refine fD ?_) | (refine' qm rfl rfl ?_ ?_; rotate_left; (focus (first | exact D8 a0 iq jC c3 c4 c5 | fail)); first | with_reducible apply g_1 | ((with_reducible first | apply g_2 | apply jO | apply lV); first | refine fB ?_ | refine fC ?_ | refine fD ?_)))
     refine oW [(2, 0), (4, 0), (4, 4), (9, 4), (13, 4), (19, 15), (24, 21), (26, 21), (32, 29), (37, 34), (42, 39)] ?_ ?_
     ·(repeat (first | refine aO (bg rfl rfl rfl rfl rfl (kC a0 gN gM jD jE iq jC (cJ c3 (cJ c4 c5)))) ?_ | (refine' aO (lU rfl rfl rfl rfl rfl ?hg ?hk) ?_; (case hg => (first | exact kC a0 gN gM jD jE iq jC (cJ c3 (cJ c4 c5)) | fail)); (case hk => first | (with_reducible apply g_1; exact ⟨rfl, (kC a0 gN gM jD jE iq jC (cJ c3 (cJ c4 c5)))⟩) | ((with_reducible first | apply g_2 | apply jO | apply lV); rfl))))); exact bn
     refine kR a0 iq jC c3 c4 c5 ?_
     refine fQ a0 ?_
     exact ⟨by simp [oP, d3, d4, c5], K5⟩
    | true =>
     repeat (first | (apply wK; (focus (first | exact D8 a0 iq jC c3 c4 c5 | fail)); first | refine fB ?_ | refine fC ?_ | refine fD ?_) | (refine' qm rfl rfl ?_ ?_; rotate_left; (focus (first | exact D8 a0 iq jC c3 c4 c5 | fail)); first | with_reducible apply g_1 | ((with_reducible first | apply g_2 | apply jO | apply lV); first | refine fB ?_ | refine fC ?_ | refine fD ?_)))
     refine bD (aU a0) ?_
     refine C.mono (MI (R := fun p => gq (fM p)) (fs := []) (cs := []) (by omega) (fun p hp => (hln.2 p hp).imp fun _ h => h.1) hnm _ (bW.kp r1 K5)) ?_
     rintro _ σ6 ⟨rfl, k6⟩
     have n6 := k6.next
     (try simp only [ah, au] at n6)
     have K6 := K5.trans k6
     have iY := (k6.get (σ.next) (by first | omega | (simp only [ah]; omega))).trans (iq)
     have iZ := (k6.get (σ1.next) (by first | omega | (simp only [ah]; omega))).trans (jC)
     cases c6 : (names.all fun p => gq (fM p)) with
     | false =>
      repeat (first | (apply wK; (focus (first | exact Ud a0 iY iZ c3 c4 c5 c6 | fail)); first | refine fB ?_ | refine fC ?_ | refine fD ?_) | (refine' qm rfl rfl ?_ ?_; rotate_left; (focus (first | exact Ud a0 iY iZ c3 c4 c5 c6 | fail)); first | with_reducible apply g_1 | ((with_reducible first | apply g_2 | apply jO | apply lV); first | refine fB ?_ | refine fC ?_ | refine fD ?_)))
      refine oW [(2, 0), (4, 0), (4, 4), (9, 4), (13, 4), (19, 15), (24, 21), (26, 21), (32, 29), (37, 34), (42, 39)] ?_ ?_
      ·(repeat (first | refine aO (bg rfl rfl rfl rfl rfl (kC a0 gN gM jD jE iq jC (cJ iY (cJ iZ (cJ c3 (cJ c4 (cJ c5 c6))))))) ?_ | (refine' aO (lU rfl rfl rfl rfl rfl ?hg ?hk) ?_; (case hg => (first | exact kC a0 gN gM jD jE iq jC (cJ iY (cJ iZ (cJ c3 (cJ c4 (cJ c5 c6))))) | fail)); (case hk => first | (with_reducible apply g_1; exact ⟨rfl, (kC a0 gN gM jD jE iq jC (cJ iY (cJ iZ (cJ c3 (cJ c4 (cJ c5 c6))))))⟩) | ((with_reducible first | apply g_2 | apply jO | apply lV); rfl))))); exact bn
      refine nH a0 iY iZ c3 c4 c5 c6 ?_
      refine fQ a0 ?_
      exact ⟨by simp [oP, d3, d4, c5, c6], K6⟩
     | true =>
      repeat (first | (apply wK; (focus (first | exact Ud a0 iY iZ c3 c4 c5 c6 | fail)); first | refine fB ?_ | refine fC ?_ | refine fD ?_) | (refine' qm rfl rfl ?_ ?_; rotate_left; (focus (first | exact Ud a0 iY iZ c3 c4 c5 c6 | fail)); first | with_reducible apply g_1 | ((with_reducible first | apply g_2 | apply jO | apply lV); first | refine fB ?_ | refine fC ?_ | refine fD ?_)))
      refine bD (aU a0) ?_
      have q7 : ∀ B, Kp σ (σ6.push B) := fun B => K6.push B
      have CG : ∀ B, (σ6.push B).get (σ.next) = _ := fun B => (aC (by omega)).trans iY
      have CJ : ∀ B, (σ6.push B).get (σ1.next) = _ := fun B => (aC (by omega)).trans iZ
      refine C.mono (oC (ls := [es, wh]) (R := (eP T m).e) (show 2 ≤ 1000000 by decide) z1 z2 z3 _ (vg (vs := [.slice a2 es.length jc, .slice a4 wh.length mF]) aA (by decide) (Nat.lt_succ_self _) ⟨_, _, rfl, bW.kp r2 (q7 _), _, _, rfl, bW.kp r4 (q7 _), rfl⟩ (fun v hv => by simp only [List.mem_cons, List.not_mem_nil, or_false] at hv; rcases hv with rfl | rfl <;> rfl))) ?_
      rintro _ σ7 ⟨rfl, k7⟩
      have n7 := k7.next
      (try simp only [ah, au] at n7)
      have K7 := (q7 _).trans k7
      have iK := (k7.get (σ.next) (by first | omega | (simp only [ah]; omega))).trans (CG _)
      have iI := (k7.get (σ1.next) (by first | omega | (simp only [ah]; omega))).trans (CJ _)
      cases c7 : ([es, wh].all fun l => l.all (eP T m).e) with
      | false =>
       repeat (first | (apply wK; (focus (first | exact kC a0 iK iI c3 c4 c5 c6 c7 | fail)); first | refine fB ?_ | refine fC ?_ | refine fD ?_) | (refine' qm rfl rfl ?_ ?_; rotate_left; (focus (first | exact kC a0 iK iI c3 c4 c5 c6 c7 | fail)); first | with_reducible apply g_1 | ((with_reducible first | apply g_2 | apply jO | apply lV); first | refine fB ?_ | refine fC ?_ | refine fD ?_)))
       refine oW [(2, 0), (4, 0), (4, 4), (9, 4), (13, 4), (19, 15), (24, 21), (26, 21), (32, 29), (37, 34), (42, 39)] ?_ ?_
       ·(repeat (first | refine aO (bg rfl rfl rfl rfl rfl (kC a0 gN gM jD jE iq jC (cJ iY (cJ iZ (cJ CG (cJ CJ (cJ iK (cJ iI (cJ c3 (cJ c4 (cJ c5 (cJ c6 c7)))))))))))) ?_ | (refine' aO (lU rfl rfl rfl rfl rfl ?hg ?hk) ?_; (case hg => (first | exact kC a0 gN gM jD jE iq jC (cJ iY (cJ iZ (cJ CG (cJ CJ (cJ iK (cJ iI (cJ c3 (cJ c4 (cJ c5 (cJ c6 c7)))))))))) | fail)); (case hk => first | (with_reducible apply g_1; exact ⟨rfl, (kC a0 gN gM jD jE iq jC (cJ iY (cJ iZ (cJ CG (cJ CJ (cJ iK (cJ iI (cJ c3 (cJ c4 (cJ c5 (cJ c6 c7)))))))))))⟩) | ((with_reducible first | apply g_2 | apply jO | apply lV); rfl))))); exact bn
       refine aY a0 iK iI c3 c4 c5 c6 c7 ?_
       refine fQ a0 ?_
       exact ⟨by simp [oP, d3, d4, c5, c6, c7], K7⟩
      | true =>
       repeat (first | (apply wK; (focus (first | exact kC a0 iK iI c3 c4 c5 c6 c7 | fail)); first | refine fB ?_ | refine fC ?_ | refine fD ?_) | (refine' qm rfl rfl ?_ ?_; rotate_left; (focus (first | exact kC a0 iK iI c3 c4 c5 c6 c7 | fail)); first | with_reducible apply g_1 | ((with_reducible first | apply g_2 | apply jO | apply lV); first | refine fB ?_ | refine fC ?_ | refine fD ?_)))
       refine bD (aU a0) ?_
       refine C.mono (ql (R := (eP T m).q) (fs := []) (cs := []) (by omega) (fun p hp => kL (hlq.2 p hp)) (fun p hp x => hQ p (hlq.2 p hp) x) _ (bW.kp r3 K7)) ?_
       rintro _ σ8 ⟨rfl, k8⟩
       have n8 := k8.next
       (try simp only [ah, au] at n8)
       have K8 := K7.trans k8
       have jM := (k8.get (σ.next) (by first | omega | (simp only [ah]; omega))).trans (iK)
       have jB := (k8.get (σ1.next) (by first | omega | (simp only [ah]; omega))).trans (iI)
       cases c8 : (qs.all (eP T m).q) with
       | false =>
        repeat (first | (apply wK; (focus (first | exact kC a0 jM jB c3 c4 c5 c6 (cJ c7 c8) | fail)); first | refine fB ?_ | refine fC ?_ | refine fD ?_) | (refine' qm rfl rfl ?_ ?_; rotate_left; (focus (first | exact kC a0 jM jB c3 c4 c5 c6 (cJ c7 c8) | fail)); first | with_reducible apply g_1 | ((with_reducible first | apply g_2 | apply jO | apply lV); first | refine fB ?_ | refine fC ?_ | refine fD ?_)))
        refine oW [(2, 0), (4, 0), (4, 4), (9, 4), (13, 4), (19, 15), (24, 21), (26, 21), (32, 29), (37, 34), (42, 39)] ?_ ?_
        ·(repeat (first | refine aO (bg rfl rfl rfl rfl rfl (kC a0 gN gM jD jE iq jC (cJ iY (cJ iZ (cJ CG (cJ CJ (cJ iK (cJ iI (cJ jM (cJ jB (cJ c3 (cJ c4 (cJ c5 (cJ c6 (cJ c7 c8))))))))))))))) ?_ | (refine' aO (lU rfl rfl rfl rfl rfl ?hg ?hk) ?_; (case hg => (first | exact kC a0 gN gM jD jE iq jC (cJ iY (cJ iZ (cJ CG (cJ CJ (cJ iK (cJ iI (cJ jM (cJ jB (cJ c3 (cJ c4 (cJ c5 (cJ c6 (cJ c7 c8))))))))))))) | fail)); (case hk => first | (with_reducible apply g_1; exact ⟨rfl, (kC a0 gN gM jD jE iq jC (cJ iY (cJ iZ (cJ CG (cJ CJ (cJ iK (cJ iI (cJ jM (cJ jB (cJ c3 (cJ c4 (cJ c5 (cJ c6 (cJ c7 c8))))))))))))))⟩) | ((with_reducible first | apply g_2 | apply jO | apply lV); rfl))))); exact bn
        refine aY a0 jM jB c3 c4 c5 c6 (cJ c7 c8) ?_
        refine fQ a0 ?_
        exact ⟨by simp [oP, d3, d4, c5, c6, c7, c8], K8⟩
       | true =>
        repeat (first | (apply wK; (focus (first | exact kC a0 jM jB c3 c4 c5 c6 (cJ c7 c8) | fail)); first | refine fB ?_ | refine fC ?_ | refine fD ?_) | (refine' qm rfl rfl ?_ ?_; rotate_left; (focus (first | exact kC a0 jM jB c3 c4 c5 c6 (cJ c7 c8) | fail)); first | with_reducible apply g_1 | ((with_reducible first | apply g_2 | apply jO | apply lV); first | refine fB ?_ | refine fC ?_ | refine fD ?_)))
        refine bD (aU a0) ?_
        refine C.mono (vC (R := SK T m) (fs := []) (cs := []) (by omega) (fun p hp => JD (hlb.2 p hp)) (fun p hp x => hSt p (hlb.2 p hp) x) _ (bW.kp r5 K8)) ?_
        rintro _ σ9 ⟨rfl, k9⟩
        have n9 := k9.next
        (try simp only [ah, au] at n9)
        have K9 := K8.trans k9
        have mD := (k9.get (σ.next) (by first | omega | (simp only [ah]; omega))).trans (jM)
        have lQ := (k9.get (σ1.next) (by first | omega | (simp only [ah]; omega))).trans (jB)
        cases c9 : (body.all (SK T m)) with
        | false =>
         repeat (first | (apply wK; (focus (first | exact kC a0 mD lQ c3 c4 c5 c6 (cJ c7 (cJ c8 c9)) | fail)); first | refine fB ?_ | refine fC ?_ | refine fD ?_) | (refine' qm rfl rfl ?_ ?_; rotate_left; (focus (first | exact kC a0 mD lQ c3 c4 c5 c6 (cJ c7 (cJ c8 c9)) | fail)); first | with_reducible apply g_1 | ((with_reducible first | apply g_2 | apply jO | apply lV); first | refine fB ?_ | refine fC ?_ | refine fD ?_)))
         refine oW [(2, 0), (4, 0), (4, 4), (9, 4), (13, 4), (19, 15), (24, 21), (26, 21), (32, 29), (37, 34), (42, 39)] ?_ ?_
         ·(repeat (first | refine aO (bg rfl rfl rfl rfl rfl (kC a0 gN gM jD jE iq jC (cJ iY (cJ iZ (cJ CG (cJ CJ (cJ iK (cJ iI (cJ jM (cJ jB (cJ mD (cJ lQ (cJ c3 (cJ c4 (cJ c5 (cJ c6 (cJ c7 (cJ c8 c9)))))))))))))))))) ?_ | (refine' aO (lU rfl rfl rfl rfl rfl ?hg ?hk) ?_; (case hg => (first | exact kC a0 gN gM jD jE iq jC (cJ iY (cJ iZ (cJ CG (cJ CJ (cJ iK (cJ iI (cJ jM (cJ jB (cJ mD (cJ lQ (cJ c3 (cJ c4 (cJ c5 (cJ c6 (cJ c7 (cJ c8 c9)))))))))))))))) | fail)); (case hk => first | (with_reducible apply g_1; exact ⟨rfl, (kC a0 gN gM jD jE iq jC (cJ iY (cJ iZ (cJ CG (cJ CJ (cJ iK (cJ iI (cJ jM (cJ jB (cJ mD (cJ lQ (cJ c3 (cJ c4 (cJ c5 (cJ c6 (cJ c7 (cJ c8 c9)))))))))))))))))⟩) | ((with_reducible first | apply g_2 | apply jO | apply lV); rfl))))); exact bn
         refine aY a0 mD lQ c3 c4 c5 c6 (cJ c7 (cJ c8 c9)) ?_
         refine fQ a0 ?_
         exact ⟨by simp [oP, d3, d4, c5, c6, c7, c8, c9], K9⟩
        | true =>
         repeat (first | (apply wK; (focus (first | exact kC a0 mD lQ c3 c4 c5 c6 (cJ c7 (cJ c8 c9)) | fail)); first | refine fB ?_ | refine fC ?_ | refine fD ?_) | (refine' qm rfl rfl ?_ ?_; rotate_left; (focus (first | exact kC a0 mD lQ c3 c4 c5 c6 (cJ c7 (cJ c8 c9)) | fail)); first | with_reducible apply g_1 | ((with_reducible first | apply g_2 | apply jO | apply lV); first | refine fB ?_ | refine fC ?_ | refine fD ?_)))
         refine bD (aU a0) ?_
         refine C.mono (vC (R := SK T m) (fs := []) (cs := []) (by omega) (fun p hp => JD (hlo.2 p hp)) (fun p hp x => hSt p (hlo.2 p hp) x) _ (bW.kp r6 K9)) ?_
         rintro _ abT ⟨rfl, k10⟩
         have n10 := k10.next
         (try simp only [ah, au] at n10)
         have K10 := K9.trans k10
         have tV := (k10.get (σ.next) (by first | omega | (simp only [ah]; omega))).trans (mD)
         have tX := (k10.get (σ1.next) (by first | omega | (simp only [ah]; omega))).trans (lQ)
         repeat (first | (apply wK; (focus (first | exact kC a0 tV tX c3 c4 c5 c6 (cJ c7 (cJ c8 c9)) | fail)); first | refine fB ?_ | refine fC ?_ | refine fD ?_) | (refine' qm rfl rfl ?_ ?_; rotate_left; (focus (first | exact kC a0 tV tX c3 c4 c5 c6 (cJ c7 (cJ c8 c9)) | fail)); first | with_reducible apply g_1 | ((with_reducible first | apply g_2 | apply jO | apply lV); first | refine fB ?_ | refine fC ?_ | refine fD ?_)))
         refine oW [(2, 0), (4, 0), (4, 4), (9, 4), (13, 4), (19, 15), (24, 21), (26, 21), (32, 29), (37, 34), (42, 39)] ?_ ?_
         ·(repeat (first | refine aO (bg rfl rfl rfl rfl rfl (kC a0 gN gM jD jE iq jC (cJ iY (cJ iZ (cJ CG (cJ CJ (cJ iK (cJ iI (cJ jM (cJ jB (cJ mD (cJ lQ (cJ tV (cJ tX (cJ c3 (cJ c4 (cJ c5 (cJ c6 (cJ c7 (cJ c8 c9)))))))))))))))))))) ?_ | (refine' aO (lU rfl rfl rfl rfl rfl ?hg ?hk) ?_; (case hg => (first | exact kC a0 gN gM jD jE iq jC (cJ iY (cJ iZ (cJ CG (cJ CJ (cJ iK (cJ iI (cJ jM (cJ jB (cJ mD (cJ lQ (cJ tV (cJ tX (cJ c3 (cJ c4 (cJ c5 (cJ c6 (cJ c7 (cJ c8 c9)))))))))))))))))) | fail)); (case hk => first | (with_reducible apply g_1; exact ⟨rfl, (kC a0 gN gM jD jE iq jC (cJ iY (cJ iZ (cJ CG (cJ CJ (cJ iK (cJ iI (cJ jM (cJ jB (cJ mD (cJ lQ (cJ tV (cJ tX (cJ c3 (cJ c4 (cJ c5 (cJ c6 (cJ c7 (cJ c8 c9)))))))))))))))))))⟩) | ((with_reducible first | apply g_2 | apply jO | apply lV); rfl))))); exact bn
         refine aY a0 tV tX c3 c4 c5 c6 (cJ c7 (cJ c8 c9)) ?_
         refine fQ a0 ?_
         exact ⟨by simp [oP, d3, d4, c5, c6, c7, c8, c9], K10⟩
end Go.Proofs.YthogkmcahnkkoaaGreatDoor
