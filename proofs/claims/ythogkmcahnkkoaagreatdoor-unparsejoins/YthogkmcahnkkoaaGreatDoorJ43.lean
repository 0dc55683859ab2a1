/- The program's writer: a whole. What is read of trees lies in no row of bytes. -/
import Derived.Test.YthogkmcahnkkoaaGreatDoorJ42
namespace Go.Proofs.YthogkmcahnkkoaaGreatDoor
open Go.RowKit
set_option maxRecDepth 10000
set_option linter.unusedSimpArgs false
set_option linter.unusedVariables false
structure KU (σ σ' : AW) : Prop where
 next : σ.next ≤ σ'.next
 get : ∀ k, k < σ.next → Au (σ.get k) → σ'.get k = σ.get k
theorem KU.refl (σ : AW) : KU σ σ := ⟨Nat.le_refl _, fun _ _ _ => rfl⟩
theorem Kp.ku {σ σ' : AW} (k : Kp σ σ') : KU σ σ' := ⟨k.next, fun j h _ => k.get j h⟩
theorem KU.trans {σ σ1 σ2 : AW} (h : KU σ σ1) (k : KU σ1 σ2) : KU σ σ2 := ⟨Nat.le_trans h.next k.next, fun j h1 h2 => by
 have e := h.get j h1 h2
 rw [k.get j (Nat.lt_of_lt_of_le h1 h.next) (by rw [e]; exact h2), e]⟩
def Ee (p v : Value) (σ : AW) : Prop := Rd σ (fun k => Au (σ.get k)) p v
theorem Ee.ku {p v : Value} {σ σ' : AW} (h : Ee p v σ) (k : KU σ σ') : Ee p v σ' := Rd.keep (fun j hD hj _ => k.get j hj hD) k.next (fun j hD hj => by rw [k.get j hj hD]; exact hD) h
theorem Ee.rda {p v : Value} {σ : AW} (h : Ee p v σ) : bW p v σ := Rd.keep (fun j hD hj _ => rfl) (Nat.le_refl _) (fun _ _ _ => trivial) h
theorem Ee.rdw {p v : Value} {σ σ' : AW} {b : Nat} (h : Ee p v σ) (k : KU σ σ') (hb : σ.next ≤ b) : aP b p v σ' := Rd.keep (fun j hD hj _ => k.get j hj hD) k.next (fun j hD hj => ⟨by omega, by rw [k.get j hj hD]; exact hD⟩) h
theorem MX {σ : AW} {r : Bool} {g : Nat} {fs cs : List Value} {m : WM} {E : Nat → AW → Prop} (hE : ∀ b, dX b (E b)) (h0 : ∀ b σ', Kp σ σ' → σ.next ≤ b → E b σ') (hf : r = true → ∀ b, Writes (E b) b 1 0 g (fs ++ [.pointer (some ⟨b, 0, none⟩)] ++ cs) m) :
  C Tryz.prog 12 [.bool r, .func (.func g) ⟨fs⟩ ⟨cs⟩] σ fun v σ' => v = .tuple ⟨[.string (lD r (m true)).1, .int .i64 (lD r (m true)).2]⟩ ∧ KU σ σ' := by
 refine fG Tryz.func12 Tryz.ntmps12 Tryz.results12 fun A hz a0 a1 => ?_
 cases r with
 | false =>
  refine gQ a0 a1 ?_
  refine dG ?_
  exact ⟨rfl, ((Kp.refl σ).push _).ku⟩
 | true =>
  refine gQ a0 a1 ?_
  refine aj (bP a0 a1) ?_
  obtain ⟨τ, hτ, kp, gF, gW, gP, nx⟩ : ∃ τ, τ = (((σ.push ⟨1, 50, 0, [.func (.func g) ⟨fs⟩ ⟨cs⟩]⟩).push ⟨1, 73, 0, [.pointer none, .slice none 0 0, .int .i64 0, .int .i64 0, .bool true, .bool false, .bool false]⟩).push ⟨1, 48, 0, [.pointer none]⟩).set (σ.next + 1 + 1) ⟨1, 48, 0, [.pointer (some ⟨σ.next + 1, 0, none⟩)]⟩ ∧ Kp σ τ ∧ τ.get σ.next = ⟨1, 50, 0, [.func (.func g) ⟨fs⟩ ⟨cs⟩]⟩ ∧ τ.get (σ.next + 1) = ⟨1, 73, 0, [.pointer none, .slice none 0 0, .int .i64 0, .int .i64 0, .bool true, .bool false, .bool false]⟩ ∧ τ.get (σ.next + 2) = ⟨1, 48, 0, [.pointer (some ⟨σ.next + 1, 0, none⟩)]⟩ ∧ τ.next = σ.next + 3 :=
   (by refine' ⟨_, rfl, ((((Kp.refl σ).push _).push _).push _).set (by omega) _, ?_, ?_, ?_, rfl⟩; any_goals (first | exact dD | fail))
  rw [← hτ]
  clear hτ
  have hw0 : Dt τ (σ.next + 1) eB 0 0 true false false := ⟨⟨by omega, _, _, gW, .inl rfl, .inl ⟨rfl, rfl⟩⟩, by decide⟩
  have hE3 : dX (σ.next + 1) fun σ' => E (σ.next + 1) σ' ∧ σ'.get σ.next = ⟨1, 50, 0, [.func (.func g) ⟨fs⟩ ⟨cs⟩]⟩ ∧ σ'.get (σ.next + 2) = ⟨1, 48, 0, [.pointer (some ⟨σ.next + 1, 0, none⟩)]⟩ ∧ σ.next + 3 ≤ σ'.next := fun σ1 σ2 ⟨h, g1, g2, hn⟩ k =>
   ⟨hE _ _ _ h k, (k.get _ (by omega) (by omega) (by rw [g1]; show (50 : Nat) ≠ 5; decide)).trans g1, (k.get _ (by omega) (by omega) (by rw [g2]; show (48 : Nat) ≠ 5; decide)).trans g2, Nat.le_trans hn k.next⟩
  refine C.mono (qU (E := fun σ' => E (σ.next + 1) σ' ∧ σ'.get σ.next = ⟨1, 50, 0, [.func (.func g) ⟨fs⟩ ⟨cs⟩]⟩ ∧ σ'.get (σ.next + 2) = ⟨1, 48, 0, [.pointer (some ⟨σ.next + 1, 0, none⟩)]⟩ ∧ σ.next + 3 ≤ σ'.next) (fs := []) hE3 (by decide) (by decide) (m := m) (fun _ σ1 s1 t1 Uf tl1 he h1 => ?_) _ _ _ _ _ ⟨h0 _ _ kp (by omega), gF, gP, by omega⟩ hw0) ?_
  ·obtain ⟨he, gF1, gP1, hn1⟩ := he
   refine fG Tryz.func25 Tryz.ntmps25 Tryz.results25 fun A hz a0 a1 => ?_
   refine dV a0 a1 gF1 gP1 ?_
   refine aj (bP a0 a1) ?_
   refine C.mono (hf rfl _ _ _ _ _ _ he h1) ?_
   rintro _ σ2 h2
   refine iO ?_
   refine gI ?_
   exact h2
  ·rw [if_neg (by decide)]
   rintro _ σ2 h2
   have Y0 := (h2.2.get _ (by omega) (by omega) (by rw [gP]; show (48 : Nat) ≠ 5; decide)).trans gP
   have ku : KU σ σ2 := ⟨by have := h2.2.next; omega, fun k hk he => (h2.2.get' k (by omega) (by omega) (by rw [kp.get k hk]; exact he)).trans (kp.get k hk)⟩
   obtain ⟨av, vv, gW2, _⟩ := h2.1.open
   have hbl := h2.1.bl
   have hfit := h2.1.fit
   have eo : lD true (m true) = if (m true).2.2 = true then (eB, 9) else if (kD (m true).1 (eB, false)).2 = true then (eB, 8) else ((kD (m true).1 (eB, false)).1, 0) := by unfold lD; rw [if_neg (by decide)]
   rw [eo]
   cases h5 : (m true).2.2 with
   | true =>
    have c5 : (false || (m true).2.2) = true := by rw [h5]; rfl
    refine jy a0 a1 Y0 gW2 c5 ?_
    refine dG ?_
    exact ⟨rfl, ku⟩
   | false =>
    have c5 : (false || (m true).2.2) = false := by rw [h5]; rfl
    cases h6 : (kD (m true).1 (eB, false)).2 with
    | true =>
     refine kR a0 a1 Y0 gW2 c5 h6 ?_
     refine dG ?_
     exact ⟨rfl, ku⟩
    | false =>
     refine kR a0 a1 Y0 gW2 c5 h6 ?_
     refine aj (bP a0 a1) ?_
     refine C.mono (string_c hbl (Nat.le_trans hfit (by decide))) ?_
     rintro _ σ3 ⟨rfl, hn3, hk3⟩
     refine iO ?_
     refine dG ?_
     exact ⟨rfl, ku.trans ⟨Nat.le_of_eq hn3.symm, fun k _ he => hk3 k he⟩⟩
def NB (x : Value) : Prop := ∃ c ∈ aF x, ∀ m, c ≠ .int .u8 m
def XT (σ : AW) (D : Nat → Prop) (p : Tr) : Prop := ∀ x, Rd σ D p x → Ee p x σ ∧ NB x
section
variable {σ : AW} {D : Nat → Prop}
theorem Qy {S : Nat → Prop} : ∀ {l : List Tr} {vs : List Value}, (∀ p ∈ l, ∀ x, Rd σ D p x → Rd σ S p x) → nG σ D l vs → nG σ S l vs
 | [], _, _, h => h
 | p :: l, _, hl, ⟨v, vs, e, h1, h2⟩ => ⟨v, vs, e, hl p (List.mem_cons_self ..) v h1, Qy (fun q hq => hl q (List.mem_cons_of_mem _ hq)) h2⟩
theorem ZM {l : List Tr} {vs : List Value} (h : nG σ D l vs) {i : Nat} (hi : i < vs.length) : ∃ hi' : i < l.length, Rd σ D l[i] vs[i] := ⟨by rw [← h.length]; exact hi, h.at (by rw [← h.length]; exact hi) hi⟩
theorem iw {n : Nat} {l : List Tr} {v : Value} (h : Rd σ D (sl n l) v) (hl : ∀ p ∈ l, XT σ D p) : Ee (sl n l) v σ := by
 obtain ⟨vs, h1, hs⟩ := oO.1 h
 have h2 : nG σ (fun k => Au (σ.get k)) l vs := Qy (fun p hp x hx => (hl p hp x hx).1) h1
 rcases hs with ⟨rfl, a, c, rfl⟩ | ⟨b, o, c, k, e, z, cs, rfl, hb, hk, hz, hlt, hD, hcs, hx⟩
 ·exact oO.2 ⟨[], h2, .inl ⟨rfl, a, c, rfl⟩⟩
 ·by_cases hv : vs.length = 0
  ·have : vs = [] := List.eq_nil_of_length_eq_zero hv
   subst this
   exact oO.2 ⟨[], h2, .inl ⟨rfl, _, c, rfl⟩⟩
  ·refine oO.2 ⟨vs, h2, .inr ⟨b, o, c, k, e, z, cs, rfl, hb, hk, hz, hlt, .inr ?_, hcs, hx⟩⟩
   obtain ⟨hi, hr⟩ := ZM h1 (i := 0) (by omega)
   obtain ⟨c0, hc0, hn⟩ := (hl _ (List.getElem_mem hi) _ hr).2
   refine ⟨c0, ?_, hn⟩
   rw [hb]
   have : c0 ∈ (cs.drop o).take (vs.length * n) := by
    rw [hcs]
    exact List.mem_flatMap.2 ⟨_, List.getElem_mem _, hc0⟩
   exact List.mem_of_mem_drop (List.mem_of_mem_take this)
theorem FW {k : Int} {l : List Value} : NB (.agg ⟨.int .i64 k :: l⟩) := ⟨_, List.mem_cons_self .., fun m e => by injection e with e; cases e⟩
theorem Ef {β : Bd} : ∀ n, (∀ p, (bT β n).e p → XT σ D p) ∧ (∀ p, (bT β n).q p → XT σ D p) ∧ (∀ p, (bT β n).f p → XT σ D p)
 | 0 => ⟨fun _ h => h.elim, fun _ h => h.elim, fun _ h => h.elim⟩
 | n + 1 => by
  obtain ⟨hE, hQ, hF⟩ := Ef (β := β) n
  refine ⟨fun p hp x hx => ?_, fun p hp x hx => ?_, fun p hp x hx => ?_⟩
  ·obtain ⟨k, m, s, t, kids, qs, rfl, hk, hm, hs, ht, hkids, yK⟩ := hp
   obtain ⟨v1, v2, rfl, r1, r2⟩ := qL hx
   exact ⟨yI (iw r1 (fun p hp => hE p (hkids.2 p hp))) (iw r2 (fun p hp => hQ p (yK.2 p hp))), FW⟩
  ·obtain ⟨k, di, m, items, froms, wh, gr, ha, or, kids, rfl, hk, hm, hit, hfr, hwh, hgr, hha, hor, hkids⟩ := hp
   obtain ⟨v1, v2, v3, v4, v5, v6, v7, rfl, r1, r2, r3, r4, r5, r6, r7⟩ := Jw hx
   have ext : ∀ (y : Tr), (∀ v, Rd σ D y v → Ee y v σ) → ∀ e, (bT β n).e e → XT σ D (.agg ⟨um e ++ [y]⟩) := fun y hy e he x hx => by
    obtain ⟨k, m, s, t, kids, qs, rfl⟩ := FM he
    obtain ⟨uk, uq, uv, rfl, x1, x2, x3⟩ := OL hx
    have h6 := (hE _ he _ (yI x1 x2)).1
    obtain ⟨uk', uq', e, y1, y2⟩ := qL h6
    injection e with e
    injection e with e
    simp only [List.cons.injEq, and_true, true_and] at e
    obtain ⟨rfl, rfl⟩ := e
    exact ⟨jh.2 ⟨_, rfl, _, _, rfl, BJ.2 rfl, _, _, rfl, BJ.2 rfl, _, _, rfl, jQ.2 rfl, _, _, rfl, jQ.2 rfl, _, _, rfl, y1, _, _, rfl, y2, _, _, rfl, hy _ x3, rfl⟩, FW⟩
   have sI : ∀ p ∈ items, XT σ D p := fun p hp => by
    obtain ⟨y, nm, rfl, hn, hy⟩ := hit.2 p hp
    exact ext _ (fun v hv => jQ.2 (jQ.1 hv)) y hy
   have sK : ∀ p ∈ or, XT σ D p := fun p hp => by
    obtain ⟨y, fl, rfl, hy⟩ := hor.2 p hp
    exact ext _ (fun v hv => sW.2 (sW.1 hv)) y hy
   have sE : ∀ {l : List Tr}, LL β (bT β n).e l → ∀ p ∈ l, XT σ D p := fun h p hp => hE p (h.2 p hp)
   exact ⟨WJ (iw r1 sI) (iw r2 (fun p hp => hF p (hfr.2 p hp))) (iw r3 (sE hwh)) (iw r4 (sE hgr)) (iw r5 (sE hha)) (iw r6 sK) (iw r7 (fun p hp => hQ p (hkids.2 p hp))), FW⟩
  ·obtain ⟨k, v, t, a, q, kids, on, rfl, hk, ht, ha, hq, hkids, hon⟩ := hp
   obtain ⟨v1, v2, v3, rfl, r1, r2, r3⟩ := FD hx
   exact ⟨Qs (iw r1 (fun p hp => hQ p (hq.2 p hp))) (iw r2 (fun p hp => hF p (hkids.2 p hp))) (iw r3 (fun p hp => hE p (hon.2 p hp))), FW⟩
theorem xP {β : Bd} : ∀ n p, vF β n p → XT σ D p
 | 0, _, h => h.elim
 | n + 1, p, hp => fun x hx => by
  obtain ⟨hE, hQ, hF⟩ := Ef (σ := σ) (D := D) (β := β) n
  obtain ⟨k, a, t, names, es, qs, wh, body, other, rfl, hk, ha, ht, hnm, hes, yK, hwh, ZC, hot⟩ := hp
  obtain ⟨v1, v2, v3, v4, v5, v6, rfl, r1, r2, r3, r4, r5, r6⟩ := sJ hx
  have sN : ∀ p ∈ names, XT σ D p := fun p hp x hx => by
   obtain ⟨s, rfl, _⟩ := hnm.2 p hp
   have := jQ.1 hx
   subst this
   exact ⟨jQ.2 rfl, _, List.mem_cons_self .., fun m e => by cases e⟩
  exact ⟨tY (iw r1 sN) (iw r2 (fun p hp => hE p (hes.2 p hp))) (iw r3 (fun p hp => hQ p (yK.2 p hp))) (iw r4 (fun p hp => hE p (hwh.2 p hp))) (iw r5 (fun p hp => xP n p (ZC.2 p hp))) (iw r6 (fun p hp => xP n p (hot.2 p hp))), FW⟩
end
end Go.Proofs.YthogkmcahnkkoaaGreatDoor
