/- What the weights of scripts say. Arguments in the reckoning's memory: whatever can be read as data of bools, numbers, texts, structs and slices lies there, in rows that are read alone. From arguments to a law's run: what holds in a memory where the arguments lie holds of the call itself. What arguments are, by their types; what is read lies in no row of bytes. -/
import Derived.Test.YthogkmcahnkkoaaGreatDoorJ41
import Derived.ChangeArms
import Derived.Deep.Slices
import Derived.ChangeShapes
namespace Go.Proofs.YthogkmcahnkkoaaGreatDoor
open Go.RowKit
set_option maxRecDepth 10000
set_option linter.unusedSimpArgs false
set_option linter.unusedVariables false
set_option maxHeartbeats 4000000
def KP (n : Nat) (p : Tr) : Prop := ∃ nm params pvars AU, p = .agg ⟨[.string nm, sl 2 params, sl 2 pvars, sl 9 AU]⟩ ∧ (∀ q ∈ params, KV q) ∧ params.length ≤ 9223372036854775807 ∧ (∀ q ∈ pvars, KV q) ∧ pvars.length ≤ 9223372036854775807 ∧ LL bM (vF bM n) AU
theorem ag0 {n : Nat} {p : Tr} (h : KP n p) : ShT 4 p := by
 obtain ⟨nm, params, pvars, AU, rfl, _⟩ := h
 exact ⟨_, rfl, rfl, fun q hq => by
  simp only [List.mem_cons, List.not_mem_nil, or_false] at hq
  rcases hq with rfl | rfl | rfl | rfl
  ·exact .inr (.inr (.inl ⟨_, rfl⟩))
  ·exact .inr (.inr (.inr ⟨_, _, rfl⟩))
  ·exact .inr (.inr (.inr ⟨_, _, rfl⟩))
  ·exact .inr (.inr (.inr ⟨_, _, rfl⟩))⟩
theorem yL {n : Nat} {vars procs body : List Tr} (hv : ∀ q ∈ vars, KV q) (hvl : vars.length ≤ 9223372036854775807) (hp : ∀ q ∈ procs, KP n q) (hpl : procs.length ≤ 9223372036854775807) (hb : LL bM (vF bM n) body) {x : Value} {σ : AW} (hx : bW (zq vars procs body) x σ) :
  Wgh 4 [x] σ 0 (vars.length ≤ 1000 ∧ procs.length ≤ 1000 ∧ LL b0 (vF b0 61) body) := by
 obtain ⟨v1, v2, v3, rfl, r1, r2, r3⟩ := Ip hx
 obtain ⟨y1, jA, rfl⟩ := aG r1
 obtain ⟨y2, jc, rfl⟩ := aG r2
 obtain ⟨y3, jT, rfl⟩ := aG r3
 have ag1 : ∀ p ∈ procs, ShT 4 p := fun p h => ag0 (hp p h)
 have K0 : Kp σ (σ.push ⟨1, 26, 0, [.slice y1 vars.length jA, .slice y2 procs.length jc, .slice y3 body.length jT]⟩) := (Kp.refl σ).push _
 unfold Wgh
 refine pK Tryz.func4 Tryz.ntmps4 Tryz.results4 fun A hz a0 => ?_
 refine jR a0 ?_
 obtain ⟨τ, hτ, kt, g0, n0⟩ : ∃ τ, τ = (σ.push ⟨1, 26, 0, [.slice y1 vars.length jA, .slice y2 procs.length jc, .slice y3 body.length jT]⟩) ∧ Kp σ τ ∧ τ.get σ.next = ⟨1, 26, 0, [.slice y1 vars.length jA, .slice y2 procs.length jc, .slice y3 body.length jT]⟩ ∧ σ.next < τ.next := ⟨_, rfl, K0, aA, Nat.lt_succ_self _⟩
 rw [← hτ]
 clear hτ K0
 refine bY mixed (by kernel_rfl) (by kernel_rfl) ?_
 refine gT2 a0 g0 ?_
 refine bD (dD) ?_
 refine C.mono (xO hv hvl (bW.kp r1 kt)) ?_
 rintro _ τ1 ⟨⟨w1, rfl, w1a, w1b, w1c⟩, k1⟩
 have g1 := (k1.get σ.next n0).trans g0
 have sG := k1.next
 refine gT2 a0 g1 ?_
 refine bD (dD) ?_
 refine C.mono (sD 61 n body hb 0 (by decide) (by decide) (by decide) _ _ (bW.kp r3 (kt.trans k1))) ?_
 rintro _ τ2 ⟨⟨w2, rfl, w2a, w2b, w2c⟩, k2⟩
 have g2 := (k2.get σ.next (by omega)).trans g1
 have nn2 := k2.next
 have hs1 : aT .add (.int .i64 w1) (.int .i64 w2) = some (.int .i64 (w1 + w2)) := aH (by omega) (by omega)
 refine Ub a0 g2 hs1 ?_
 refine oW [(1, 0), (4, 0), (4, 3)] ?_ ?_
 ·(repeat (refine aO (bg rfl rfl rfl rfl rfl (qx a0 g0 g1 g2)) ?_)); exact bn
 have K1 := (kt.trans k1).trans k2
 have l2 : ∀ τ, fF Tryz.prog τ 23 (.slice y2 procs.length jc) = some (.int .i64 procs.length) := fun τ => Z8 τ _ _ _
 refine gC2 a0 g2 ?_
 apply b_k
 refine dB (dI (fun mz B ω => ∃ (jo : Nat) (M : Int), jo ≤ procs.length ∧ mz = procs.length - jo ∧ B.size = 50 ∧ B.get 1 = some (.pointer (some ⟨σ.next, 0, none⟩)) ∧ B.get 3 = some (.int .i64 M) ∧ B.get 4 = some (.int .i64 (jo : Int)) ∧ Kp σ ω ∧ ω.get σ.next = ⟨1, 26, 0, [.slice y1 vars.length jA, .slice y2 procs.length jc, .slice y3 body.length jT]⟩ ∧ σ.next < ω.next ∧ (jo : Int) + w1 + w2 ≤ M ∧ M ≤ 100000) ?_ (m := procs.length) (by refine' ⟨0, w1 + w2, Nat.zero_le _, rfl, ?_, ?_, ?_, ?_, K1, g2, by omega, by omega, by omega⟩; any_goals (first | exact dD | fail)))
 rintro mz B ω ⟨jo, M, hj, rfl, hz, b1, b3, b4, kk, gg, nn, hM0, hM1⟩
 by_cases hjl : jo < procs.length
 ·have c2 : decide ((jo : Int) < (procs.length : Int)) = true := by simp [hjl]
  by_cases nO : M < 1000
  ·have c3 : decide (M < 1000) = true := decide_eq_true nO
   obtain ⟨bb, o, qq, c, cs, lv, e, hrow, hel, htk, hx1, hl, ho⟩ := kG (bW.kp r2 kk) Z9 (j := (jo : Int)) rfl hjl (ag1 _ (List.getElem_mem _))
   have hpj := hp _ (List.getElem_mem hjl)
   generalize hpe : procs[jo] = pj at hpj hx1
   obtain ⟨nm, params, pvars, AU, rfl, kpa, kpl, kva, kvl, kb⟩ := hpj
   obtain ⟨u0, _, hl0, q0, u1, _, rfl, q1, u2, _, rfl, q2, u3, _, rfl, q3, rfl⟩ : ∃ u0 l1, lv = u0 :: l1 ∧ Rd ω (fun _ => True) (.string nm) u0 ∧ ∃ u1 l2, l1 = u1 :: l2 ∧ Rd ω (fun _ => True) (sl 2 params) u1 ∧ ∃ u2 l3, l2 = u2 :: l3 ∧ Rd ω (fun _ => True) (sl 2 pvars) u2 ∧ ∃ u3 l4, l3 = u3 :: l4 ∧ Rd ω (fun _ => True) (sl 9 AU) u3 ∧ l4 = [] := by
    obtain ⟨l2, e2, h2⟩ := jh.1 hx1
    injection e2 with e2
    injection e2 with e2
    subst e2
    exact h2
   have hu0 := jQ.1 q0
   subst hu0
   obtain ⟨x1, e1z, rfl⟩ := aG q1
   obtain ⟨x2, e2z, rfl⟩ := aG q2
   obtain ⟨x3, ZG, rfl⟩ := aG q3
   subst hl0
   injection e with e1 _ _
   subst e1
   have hr1 := hrow _ (Kp.refl _)
   have hadd : aT .add (.int .i64 (jo : Int)) (.int .i64 1) = some (.int .i64 ((jo + 1 : Nat) : Int)) := by rw [aH (by omega) (by omega)]; rfl
   refine iC hr1 b1 b3 b4 gg c2 c3 hel (cJ htk (cJ hl ho)) ?_
   obtain ⟨τ, hτ, kt, gB, gP, nP⟩ : ∃ τ, τ = ((ω.push ⟨1, 36, 0, [.string ⟨#[]⟩, .slice none 0 0, .slice none 0 0, .slice none 0 0]⟩).set ω.next ⟨1, 36, 0, [.string nm, .slice x1 params.length e1z, .slice x2 pvars.length e2z, .slice x3 AU.length ZG]⟩) ∧ Kp ω τ ∧ τ.get σ.next = _ ∧ τ.get ω.next = ⟨1, 36, 0, [.string nm, .slice x1 params.length e1z, .slice x2 pvars.length e2z, .slice x3 AU.length ZG]⟩ ∧ τ.next = ω.next + 1 := ⟨_, rfl, ((Kp.refl ω).push _).set (Nat.le_refl _) _, (((Kp.refl ω).push _).set (Nat.le_refl _) _).get σ.next nn |>.trans gg, bF, rfl⟩
   rw [← hτ]
   clear hτ
   have hm1 : aT .add (.int .i64 M) (.int .i64 1) = some (.int .i64 (M + 1)) := aH (by omega) (by omega)
   have pP : ∀ C, (τ.push C).get ω.next = ⟨1, 36, 0, [.string nm, .slice x1 params.length e1z, .slice x2 pvars.length e2z, .slice x3 AU.length ZG]⟩ := fun C => (aC (by omega)).trans gP
   refine bY mixed (by kernel_rfl) (by kernel_rfl) ?_
   refine Uc b1 b3 b4 gP hm1 ?_
   refine bD (dD) ?_
   refine C.mono (uD (σ := τ) nm) ?_
   rintro _ τ1 ⟨⟨u1, rfl, u1a, u1b, u1c⟩, k2⟩
   have s1 := ((Kp.refl τ).push _).trans k2
   have g1 := (s1.get ω.next (by omega)).trans gP
   have sG := s1.next
   have hs1 : aT .add (.int .i64 (M + 1)) (.int .i64 u1) = some (.int .i64 (M + 1 + u1)) := aH (by omega) (by omega)
   refine Uc b1 b3 b4 g1 hs1 ?_
   refine bD (dD) ?_
   refine C.mono (xO kpa kpl (bW.kp q1 (kt.trans s1))) ?_
   rintro _ τ2 ⟨⟨u2, rfl, u2a, u2b, u2c⟩, s2⟩
   have g2 := (s2.get ω.next (by omega)).trans g1
   have nn2 := s2.next
   have hs2 : aT .add (.int .i64 (M + 1 + u1)) (.int .i64 u2) = some (.int .i64 (M + 1 + u1 + u2)) := aH (by omega) (by omega)
   refine Uc b1 b3 b4 g2 hs2 ?_
   refine bD (dD) ?_
   refine C.mono (xO kva kvl (bW.kp q2 ((kt.trans s1).trans s2))) ?_
   rintro _ τ3 ⟨⟨u3, rfl, u3a, u3b, u3c⟩, s3⟩
   have g3 := (s3.get ω.next (by omega)).trans g2
   have nn3 := s3.next
   have hs3 : aT .add (.int .i64 (M + 1 + u1 + u2)) (.int .i64 u3) = some (.int .i64 (M + 1 + u1 + u2 + u3)) := aH (by omega) (by omega)
   refine Uc b1 b3 b4 g3 hs3 ?_
   refine bD (dD) ?_
   refine C.mono (sD 61 n AU kb 0 (by decide) (by decide) (by decide) _ _ (bW.kp q3 (((kt.trans s1).trans s2).trans s3))) ?_
   rintro _ τ4 ⟨⟨u4, rfl, u4a, u4b, u4c⟩, s4⟩
   have g4 := (s4.get ω.next (by omega)).trans g3
   have nn4 := s4.next
   have hs4 : aT .add (.int .i64 (M + 1 + u1 + u2 + u3)) (.int .i64 u4) = some (.int .i64 (M + 1 + u1 + u2 + u3 + u4)) := aH (by omega) (by omega)
   have gB4 := (((((kt.trans s1).trans s2).trans s3).trans s4).get σ.next nn).trans gg
   refine Uc b1 b3 b4 g4 hs4 ?_
   refine oW [(3, 0), (8, 0), (8, 5), (8, 6), (12, 0), (12, 5), (12, 6), (12, 10), (16, 0), (16, 5), (16, 6), (16, 10), (16, 14)] ?_ ?_
   ·(repeat (refine aO (bg rfl rfl rfl rfl rfl (kC b1 b3 b4 gP pP g1 g2 (cJ g3 g4))) ?_)); exact bn
   refine dV b1 b3 b4 hadd ?_
   exact (by refine' ⟨procs.length - (jo + 1), by omega, jo + 1, M + 1 + u1 + u2 + u3 + u4, hjl, rfl, ?_, ?_, ?_, ?_, kk.trans ((((kt.trans s1).trans s2).trans s3).trans s4), gB4, by omega, by push_cast; omega, by omega⟩; any_goals (first | exact aU b1 | fail))
  ·have c3 : decide (M < 1000) = false := decide_eq_false nO
   refine nH b1 b3 b4 gg c2 c3 l2 ?_
   refine xL ?_
   refine dS b1 b3 b4 ?_
   refine dG ?_
   exact ⟨⟨_, rfl, by split <;> omega, by split <;> omega, fun h => by split at h <;> omega⟩, kk⟩
 ·have c2 : decide ((jo : Int) < (procs.length : Int)) = false := by simp [hjl]
  refine kR b1 b3 b4 gg c2 l2 ?_
  refine xL ?_
  refine dS b1 b3 b4 ?_
  refine dG ?_
  refine ⟨⟨_, rfl, by split <;> omega, by split <;> omega, fun h => ?_⟩, kk⟩
  have hM : M < 1000 := by split at h <;> omega
  exact ⟨(w1c (by omega)).1, by omega, w2c (by omega)⟩
end Go.Proofs.YthogkmcahnkkoaaGreatDoor
namespace Go.Proofs.YthogkmcahnkkoaaGreatDoor
def AV (P : Program) (T : List TypeId) : List Field → Nat → Nat → Bool
 | [], o, n => o == n
 | f :: l, o, n => (f.offset == o && T.contains f.type) && AV P T l (o + P.cellsOf f.type) n
def FU (P : Program) (T : List TypeId) (t : TypeId) : Bool := match P.underlying t with
 | some .bool | some (.int _) | some .string => P.cellsOf t == 1
 | some (.slice e) => P.cellsOf t == 1 && T.contains e && Nat.blt 0 (P.cellsOf e)
 | some (.struct fs) => AV P T fs.toList 0 (P.cellsOf t)
 | _ => false
def JI (P : Program) (T : List TypeId) : Bool := T.all (FU P T)
def TyF (R : TypeId → List Value → Prop) : List Field → List Value → Prop
 | [], ps => ps = []
 | f :: l, ps => ∃ a b, ps = a ++ b ∧ R f.type a ∧ TyF R l b
def ZH (P : Program) (e : TypeId) (ps : List Value) (x : Value) : Prop := match dF P e with
 | some true => x = .agg ⟨ps⟩
 | _ => ps = [x]
def Ty (P : Program) : Nat → TypeId → List Value → Prop
 | 0, _, _ => False
 | n + 1, t, ps => match P.underlying t with
  | some .bool => ∃ b, ps = [.bool b]
  | some (.int k) => ∃ m, ps = [.int k m] ∧ (Lit.int k m).wf = true
  | some .string => ∃ s : ByteArray, ps = [.string s] ∧ s.size ≤ maxLen
  | some (.slice e) => ∃ l : List Value, ps = [sl (P.cellsOf e) l] ∧ l.length ≤ maxLen ∧ ∀ x ∈ l, ∃ qs, ZH P e qs x ∧ Ty P n e qs
  | some (.struct fs) => TyF (Ty P n) fs.toList ps
  | _ => False
structure Laid (ρ : Rn) (σ : AW) (w : World) : Prop where
 rel : Rel ρ σ w
 dead : ∀ k, ¬ σ.live k
 four : ∀ k, (σ.get k).kind ≠ 4
structure Lays (ρ : Rn) (σ : AW) (w : World) (ρ' : Rn) (σ' : AW) : Prop extends Laid ρ' σ' w where
 next : σ.next ≤ σ'.next
 agree : ∀ k, k < σ.next → ρ' k = ρ k
 get : ∀ k, k < σ.next → σ'.get k = σ.get k
section
variable {P : Program} {w : World} {ρ ρ' ρ1 : Rn} {σ σ' σ1 : AW} {H : Type} {enc : TypeId × Value → H} {spare : Nat → Bool} {held : Bool}
theorem Lays.refl (h : Laid ρ σ w) : Lays ρ σ w ρ σ := ⟨h, Nat.le_refl _, fun _ _ => rfl, fun _ _ => rfl⟩
theorem Lays.trans (h : Lays ρ σ w ρ1 σ1) (k : Lays ρ1 σ1 w ρ' σ') : Lays ρ σ w ρ' σ' := ⟨k.toLaid, Nat.le_trans h.next k.next, fun j hj => (k.agree j (Nat.lt_of_lt_of_le hj h.next)).trans (h.agree j hj), fun j hj => (k.get j (Nat.lt_of_lt_of_le hj h.next)).trans (h.get j hj)⟩
theorem Lays.dom (h : Lays ρ σ w ρ' σ') (k : Nat) (hk : σ.dom k) : σ'.dom k := ⟨Nat.lt_of_lt_of_le hk.1 h.next, h.four k⟩
theorem Lays.sc (h : Lays ρ σ w ρ' σ') {v : Value} (hv : Sc σ.dom v) : Sc σ'.dom v ∧ ren ρ' v = ren ρ v := ⟨hv.mono h.dom, hv _ _ fun k hk => h.agree k hk.1⟩
theorem Lays.rd (h : Lays ρ σ w ρ' σ') {p v : Value} (hr : Rd σ (fun _ => True) p v) : Rd σ' (fun _ => True) p v := hr.keep (fun k _ hk _ => h.get k hk) h.next (fun _ _ _ => trivial)
theorem Lays.rdL (h : Lays ρ σ w ρ' σ') {ps vs : List Value} (hr : nG σ (fun _ => True) ps vs) : nG σ' (fun _ => True) ps vs := hr.keep (fun k _ hk _ => h.get k hk) h.next (fun _ _ _ => trivial)
theorem TU (h : Laid ρ σ w) {b off : Nat} {cs : List Value} (hs : ∀ v ∈ cs, Sc σ.dom v) (hb : cs ≠ [] → b < w.heap.size) (hc : ∀ i v, cs[i]? = some v → w.cell? ⟨b, i + off, none⟩ = some (ren ρ v)) :
  Lays ρ σ w (fun k => if k = σ.next then ⟨b, 0, off⟩ else ρ k) (σ.push ⟨5, 0, 1, cs⟩) := by
 have hg : ∀ j, (σ.push ⟨5, 0, 1, cs⟩).get j = if j = σ.next then ⟨5, 0, 1, cs⟩ else σ.get j := fun j => by rw [AW.push, AW.get_up, AW.get_set]
 have hag : ∀ j, j < σ.next → (if j = σ.next then (⟨b, 0, off⟩ : Pl) else ρ j) = ρ j := fun j hj => if_neg (by omega)
 have AX : ∀ k, ¬ (σ.push ⟨5, 0, 1, cs⟩).live k := fun k hk => by
  unfold AW.live at hk
  rw [hg] at hk
  by_cases e : k = σ.next
  ·rw [if_pos e] at hk; exact hk.1.2 rfl
  ·rw [if_neg e] at hk; exact h.dead k hk
 have aaC : ∀ k, ((σ.push ⟨5, 0, 1, cs⟩).get k).kind ≠ 4 := fun k => by
  rw [hg]
  by_cases e : k = σ.next
  ·rw [if_pos e]; exact fun x => by cases x
  ·rw [if_neg e]; exact h.four k
 have hd : ∀ j, σ.dom j → (σ.push ⟨5, 0, 1, cs⟩).dom j := fun j hj => ⟨Nat.lt_succ_of_lt hj.1, aaC j⟩
 refine ⟨⟨⟨fun k hk => absurd hk (AX k), fun k hk => absurd hk (AX k), fun k _ hk => absurd hk (AX k), fun k hk => absurd hk (AX k), fun k hk => ?_, fun q hq => ⟨(h.rel.glob q hq).1, fun k hk => absurd hk (AX k), (h.rel.glob q hq).2.2⟩, fun k hk => absurd hk (AX k), fun k hk => ?_⟩, AX, aaC⟩, Nat.le_succ _, hag, fun k hk => by rw [hg, if_neg (by omega)]⟩
 ·have hk : σ.next + 1 ≤ k := hk
  rw [hg, if_neg (by omega)]
  exact h.rel.fit k (by omega)
 ·rw [hg] at hk ⊢
  by_cases e : k = σ.next
  ·rw [if_pos e]
   simp only [if_pos e]
   subst e
   refine ⟨Nat.lt_succ_self _, fun hne => ⟨hb hne, fun j hj => absurd hj (AX j)⟩, fun v hv => (hs v hv).mono hd, fun i v hv => ?_⟩
   rw [hc i v hv, hs v (List.mem_of_getElem? hv) ρ _ (fun k hk => (hag k hk.1).symm)]
  ·rw [if_neg e] at hk ⊢
   simp only [if_neg e]
   obtain ⟨q1, q23, q4, q5⟩ := h.rel.ro.2 k hk
   refine ⟨Nat.lt_succ_of_lt q1, fun hne => ⟨(q23 hne).1, fun j hj => absurd hj (AX j)⟩, fun v hv => (q4 v hv).mono hd, fun i v hv => ?_⟩
   rw [q5 i v hv, q4 v (List.mem_of_getElem? hv) ρ _ (fun k hk => (hag k hk.1).symm)]
def Opened (P : Program) (n : Nat) (t : TypeId) (cs : List Value) (ρ : Rn) (σ : AW) (w : World) : Prop := ∃ ρ' σ' cs' ps, Lays ρ σ w ρ' σ' ∧ cs = cs'.map (ren ρ') ∧ (∀ v ∈ cs', Sc σ'.dom v ∧ gu v = true) ∧ nG σ' (fun _ => True) ps cs' ∧ Ty P n t ps ∧ cs'.length = P.cellsOf t
theorem tZ {n : Nat} {t : TypeId} {p v : Value} (h : Laid ρ σ w) (hv : ni v = true) (h1 : gu v = true) (hr : Rd σ (fun _ => True) p v) (ht : Ty P n t [p]) (hc : P.cellsOf t = 1) : Opened P n t [v] ρ σ w :=
 ⟨ρ, σ, [v], [p], .refl h, by rw [List.map_cons, gJ hv ρ]; rfl, fun u hu => by simp only [List.mem_singleton] at hu; subst hu; exact ⟨(gJ hv).sc _, h1⟩, nG.one hr, ht, hc.symm⟩
theorem XB {P : Program} {T : List TypeId} {e : TypeId} (h : FU P T e = true) : dF P e = some true ∨ (dF P e ≠ some true ∧ P.cellsOf e = 1) := by
 unfold FU at h
 unfold dF
 split at h
 ·rename_i hu; rw [hu]; exact .inr ⟨by simp, by simpa using h⟩
 ·rename_i hu; rw [hu]; exact .inr ⟨by simp, by simpa using h⟩
 ·rename_i hu; rw [hu]; exact .inr ⟨by simp, by simpa using h⟩
 ·rename_i hu; rw [hu]; exact .inr ⟨by simp, by simp only [Bool.and_eq_true, beq_iff_eq] at h; exact h.1.1⟩
 ·rename_i hu; rw [hu]; exact .inl rfl
 ·cases h
theorem addr_add (a : Addr) (i j : Nat) : (a.add i).add j = a.add (i + j) := by
 unfold Addr.add
 by_cases hi : i = 0 <;> by_cases hj : j = 0 <;> simp [hi, hj, Nat.add_assoc]
theorem JJ (h : Lays ρ σ w ρ' σ') {cs : List Value} (hs : ∀ v ∈ cs, Sc σ.dom v ∧ gu v = true) : (∀ v ∈ cs, Sc σ'.dom v ∧ gu v = true) ∧ cs.map (ren ρ') = cs.map (ren ρ) :=
 ⟨fun v hv => ⟨(h.sc (hs v hv).1).1, (hs v hv).2⟩, List.map_congr_left fun v hv => (h.sc (hs v hv).1).2⟩
theorem Dy {T : List TypeId} {n : Nat} (ih : ∀ t cs ρ σ, t ∈ T → (∃ x, DataW.trod enc P w 0 spare held n t cs = some x) → Laid ρ σ w → Opened P n t cs ρ σ w) {cs : List Value} {N : Nat} (hN : cs.length = N) :
  ∀ (l : List Field) (o : Nat) (ρ : Rn) (σ : AW), AV P T l o N = true → (∀ f ∈ l, ∃ x, DataW.trod enc P w 0 spare held n f.type ((cs.drop f.offset).take (P.cellsOf f.type)) = some x) → Laid ρ σ w →
   ∃ ρ' σ' cs' ps, Lays ρ σ w ρ' σ' ∧ cs.drop o = cs'.map (ren ρ') ∧ (∀ v ∈ cs', Sc σ'.dom v ∧ gu v = true) ∧ nG σ' (fun _ => True) ps cs' ∧ TyF (Ty P n) l ps ∧ o + cs'.length = N
 | [], o, ρ, σ, hf, _, hL => by
  unfold AV at hf
  have ho : o = N := by simpa using hf
  exact ⟨ρ, σ, [], [], .refl hL, by rw [List.drop_of_length_le (by omega)]; rfl, fun v hv => absurd hv (by simp), rfl, rfl, by simp [ho]⟩
 | f :: l, o, ρ, σ, hf, ht, hL => by
  unfold AV at hf
  simp only [Bool.and_eq_true, beq_iff_eq, List.contains_iff_mem] at hf
  obtain ⟨⟨rfl, hT⟩, hf⟩ := hf
  obtain ⟨ρ1, σ1, c1, p1, l1, e1, s1, r1, t1, n1⟩ := ih _ _ ρ σ hT (ht f (List.mem_cons_self ..)) hL
  obtain ⟨ρ2, σ2, c2, p2, l2, e2, s2, r2, t2, n2⟩ := Dy ih hN l _ ρ1 σ1 hf (fun g hg => ht g (List.mem_cons_of_mem _ hg)) l1.toLaid
  obtain ⟨s1', m1⟩ := JJ l2 s1
  refine ⟨ρ2, σ2, c1 ++ c2, p1 ++ p2, l1.trans l2, ?_, fun v hv => (List.mem_append.1 hv).elim (s1' v) (s2 v), (l2.rdL r1).append r2, ⟨p1, p2, rfl, t1, t2⟩, by rw [List.length_append]; omega⟩
  rw [List.map_append, m1, ← e1, ← e2, ← List.drop_drop, List.take_append_drop]
theorem MV {n : Nat} : ∀ (vs : List Value) (F : Nat → Value → Prop), (∀ v ∈ vs, (aF v).length = n) → (∀ q (h : q < vs.length) r u, (aF vs[q])[r]? = some u → F (q * n + r) u) → ∀ i u, (vs.flatMap aF)[i]? = some u → F i u
 | [], _, _, _, i, u, hu => by simp at hu
 | x :: vs, F, hl, hF, i, u, hu => by
  have hx := hl x (List.mem_cons_self ..)
  rw [List.flatMap_cons] at hu
  by_cases hi : i < n
  ·rw [List.getElem?_append_left (by omega)] at hu
   have := hF 0 (by simp) i u hu
   simpa using this
  ·rw [List.getElem?_append_right (by omega), hx] at hu
   have := MV vs (fun j u => F (n + j) u) (fun v hv => hl v (List.mem_cons_of_mem _ hv)) (fun q h r u hq => by
    have := hF (q + 1) (by simpa using h) r u (by simpa using hq)
    rw [Nat.add_mul, Nat.one_mul] at this
    rw [show n + (q * n + r) = q * n + n + r by omega]
    exact this) (i - n) u hu
   rw [show n + (i - n) = i by omega] at this
   exact this
theorem FV {T : List TypeId} {n : Nat} (ih : ∀ t cs ρ σ, t ∈ T → (∃ x, DataW.trod enc P w 0 spare held n t cs = some x) → Laid ρ σ w → Opened P n t cs ρ σ w) {e : TypeId} (he : e ∈ T) (hte : FU P T e = true) {a : Addr} (hL : Laid ρ σ w) :
  ∀ m, (∀ i, i < m → ∃ cs x, w.cells? 0 (a.add (i * P.cellsOf e)) (P.cellsOf e) = some cs ∧ DataW.trod enc P w 0 spare held n e cs = some x) →
   ∃ ρ' σ' vs ps, vs.length = m ∧ Lays ρ σ w ρ' σ' ∧ (∀ i (h : i < vs.length), w.cells? 0 (a.add (i * P.cellsOf e)) (P.cellsOf e) = some ((aF vs[i]).map (ren ρ'))) ∧ (∀ v ∈ vs, (aF v).length = P.cellsOf e ∧ ∀ u ∈ aF v, Sc σ'.dom u ∧ gu u = true) ∧ nG σ' (fun _ => True) ps vs ∧ ∀ p ∈ ps, ∃ qs, ZH P e qs p ∧ Ty P n e qs
 | 0, _ => ⟨ρ, σ, [], [], rfl, .refl hL, fun i h => absurd h (by simp), fun v hv => absurd hv (by simp), rfl, fun p hp => absurd hp (by simp)⟩
 | m + 1, hel => by
  obtain ⟨ρ1, σ1, vs, ps, hm, l1, c1, s1, r1, t1⟩ := FV ih he hte hL m (fun i hi => hel i (by omega))
  obtain ⟨cs, x, hc, hx⟩ := hel m (by omega)
  obtain ⟨ρ2, σ2, cs', qs, l2, e2, s2, r2, t2, n2⟩ := ih e cs ρ1 σ1 he ⟨x, hx⟩ l1.toLaid
  have key : ∃ v p, aF v = cs' ∧ Rd σ2 (fun _ => True) p v ∧ ZH P e qs p := by
   unfold ZH
   rcases XB hte with ha | ⟨ha, h1⟩
   ·rw [ha]
    exact ⟨.agg ⟨cs'⟩, .agg ⟨qs⟩, rfl, jh.2 ⟨cs', rfl, r2⟩, rfl⟩
   ·have hl := r2.length
    rw [h1] at n2
    obtain ⟨c, rfl⟩ := List.length_eq_one_iff.1 n2
    obtain ⟨q, rfl⟩ := List.length_eq_one_iff.1 (hl.symm.trans n2)
    obtain ⟨v, l', e3, e4, e5⟩ := r2
    injection e3 with e3 e6
    subst e3
    refine ⟨c, q, ?_, e4, ?_⟩
    ·have := (s2 c (by simp)).2
     unfold aF
     cases c <;> first | rfl | cases this
    ·cases hq : dF P e with
     | none => rfl
     | some b => cases b with
      | false => rfl
      | true => exact absurd hq ha
  obtain ⟨v, p, hv, hp, Xi⟩ := key
  refine ⟨ρ2, σ2, vs ++ [v], ps ++ [p], by simp [hm], l1.trans l2, fun i hi => ?_, fun u hu => ?_, (l2.rdL r1).append (nG.one hp), fun q hq => ?_⟩
  ·by_cases h : i < vs.length
   ·rw [c1 i h, List.getElem_append_left h]
    congr 1
    exact (JJ l2 ((s1 _ (List.getElem_mem h)).2)).2.symm
   ·have hi' : i = m := by simp at hi; omega
    subst hi'
    rw [List.getElem_append_right (by omega)]
    simp only [hm, Nat.sub_self, List.getElem_singleton]
    rw [hc, hv, e2]
  ·rcases List.mem_append.1 hu with hu | hu
   ·exact ⟨(s1 u hu).1, (JJ l2 (s1 u hu).2).1⟩
   ·simp only [List.mem_singleton] at hu
    subst hu
    rw [hv]
    exact ⟨n2, s2⟩
  ·rcases List.mem_append.1 hq with hq | hq
   ·exact t1 q hq
   ·simp only [List.mem_singleton] at hq
    subst hq
    exact ⟨qs, Xi, t2⟩
theorem open_any {T : List TypeId} (hT : JI P T = true) : ∀ (n : Nat) (t : TypeId) (cs : List Value) (ρ : Rn) (σ : AW), t ∈ T → (∃ x, DataW.trod enc P w 0 spare held n t cs = some x) → Laid ρ σ w → Opened P n t cs ρ σ w
 | 0, _, _, _, _, _, ⟨x, hx⟩, _ => by simp [DataW.trod] at hx
 | n + 1, t, cs, ρ, σ, ht, ⟨x, hx⟩, hL => by
  have htt : FU P T t = true := List.all_eq_true.1 hT t ht
  have akp := htt
  unfold FU at htt
  split at htt
  ·rename_i hu
   obtain ⟨b, rfl, _⟩ := DataW.trod_bool hu hx
   exact tZ hL rfl rfl (sW.2 rfl) (by unfold Ty; rw [hu]; exact ⟨b, rfl⟩) (by simpa using htt)
  ·rename_i k hu
   obtain ⟨m, rfl, _, hwf⟩ := DataW.trod_int hu hx
   exact tZ hL rfl rfl (BJ.2 rfl) (by unfold Ty; rw [hu]; exact ⟨m, rfl, hwf⟩) (by simpa using htt)
  ·rename_i hu
   obtain ⟨s, rfl, _, hs⟩ := DataW.trod_string hu hx
   exact tZ hL rfl rfl (jQ.2 rfl) (by unfold Ty; rw [hu]; exact ⟨s, rfl, hs⟩) (by simpa using htt)
  ·rename_i e hu
   simp only [Bool.and_eq_true, beq_iff_eq, List.contains_iff_mem] at htt
   obtain ⟨⟨hc1, he⟩, hpos⟩ := htt
   have hpos : 0 < P.cellsOf e := Nat.le_of_ble_eq_true hpos
   have hte : FU P T e = true := List.all_eq_true.1 hT e he
   rcases DataW.trod_slice hu hx with ⟨rfl, _⟩ | ⟨a, len, cap, elems, rest, n', hn', rfl, _, _, hl, hm, hlen, hel, _, _⟩
   ·exact tZ (p := sl (P.cellsOf e) []) hL rfl rfl (aW _ _ _) (by unfold Ty; rw [hu]; exact ⟨[], rfl, Nat.zero_le _, fun x hx => absurd hx (by simp)⟩) hc1
   injection hn' with hn'
   subst hn'
   obtain ⟨ρ1, σ1, vs, ps, hvl, l1, c1, s1, r1, t1⟩ := FV (ρ := ρ) (σ := σ) (a := a) (open_any hT n) he hte hL len (fun i hi => by
    have := hel i hi
    rw [List.getElem?_eq_getElem (by omega)] at this
    obtain ⟨cs, h1, h2⟩ := Option.bind_eq_some_iff.1 this
    exact ⟨cs, _, h1, h2⟩)
   have hfl : ∀ v ∈ vs, (aF v).length = P.cellsOf e := fun v hv => (s1 v hv).1
   have hsc : ∀ u ∈ vs.flatMap aF, Sc σ1.dom u ∧ gu u = true := fun u hu => by
    obtain ⟨v, hv, hu⟩ := List.mem_flatMap.1 hu
    exact (s1 v hv).2 u hu
   have hcell : ∀ i u, (vs.flatMap aF)[i]? = some u → w.cell? (a.add i) = some (ren ρ1 u) := MV (n := P.cellsOf e) vs (fun i u => w.cell? (a.add i) = some (ren ρ1 u)) hfl (fun q h r u hq => by
    obtain ⟨_, _, h3⟩ := World.cells?_some (c1 q h)
    have hr : r < P.cellsOf e := by rw [← hfl _ (List.getElem_mem h)]; exact (List.getElem?_eq_some_iff.1 hq).1
    have := h3 r hr
    rw [addr_add, List.getElem?_map, hq] at this
    exact this)
   have hspot : vs ≠ [] → a.spot = none := fun hne => by
    cases vs with
    | nil => exact absurd rfl hne
    | cons v vs =>
     have h0 := hfl v (List.mem_cons_self ..)
     obtain ⟨u, hu⟩ : ∃ u, ((v :: vs).flatMap aF)[0]? = some u := by
      rw [List.flatMap_cons, List.getElem?_append_left (by omega)]
      exact ⟨_, List.getElem?_eq_getElem (by omega)⟩
     have := World.cell?_spot (hcell 0 u hu)
     simpa [Addr.add] using this
   have hadd : ∀ i, a.spot = none → a.add i = ⟨a.block, a.off + i, none⟩ := fun i hs => by
    obtain ⟨b, o, s⟩ := a
    simp only at hs
    subst hs
    exact je b o i
   have hne : vs.flatMap aF ≠ [] → vs ≠ [] := fun h e => h (by rw [e]; rfl)
   have hP := TU l1.toLaid (b := a.block) (off := a.off) (cs := vs.flatMap aF) (fun u hu => (hsc u hu).1) (fun h => by
    have hv := hne h
    obtain ⟨v, l, rfl⟩ := List.exists_cons_of_ne_nil hv
    have := World.cells?_block (c1 0 (by simp)) hpos
    simpa [Addr.add] using this) (fun i u hu => by
    have := hcell i u hu
    rw [hadd i (hspot (hne (fun e => by rw [e] at hu; simp at hu)))] at this
    rw [Nat.add_comm]
    exact this)
   refine ⟨_, _, [.slice (some ⟨σ1.next, 0, a.spot⟩) len (2 * cap)], [sl (P.cellsOf e) ps], l1.trans hP, ?_, ?_, nG.one ?_, ?_, hc1.symm⟩
   ·rw [List.map_cons, List.map_nil, aZ]
    simp only [jd, oH, if_pos, Nat.zero_add, Nat.mul_mod_right, Nat.mul_div_cancel_left _ (show 0 < 2 by decide)]
   ·intro u hu
    simp only [List.mem_singleton] at hu
    subst hu
    exact ⟨pX ⟨Nat.lt_succ_self _, hP.four _⟩, rfl⟩
   ·refine oO.2 ⟨vs, hP.rdL r1, ?_⟩
    by_cases hv : vs = []
    ·left
     subst hv
     simp only [List.length_nil] at hvl
     exact ⟨rfl, _, _, by rw [← hvl]⟩
    ·right
     refine ⟨σ1.next, 0, 2 * cap, 5, 0, 1, vs.flatMap aF, by rw [hspot hv, hvl], ?_, .inr (.inr rfl), by decide, Nat.lt_succ_self _, trivial, ?_, hfl⟩
     ·rw [AW.push, AW.get_up, AW.get_set, if_pos rfl]
     ·rw [List.drop_zero]
      refine List.take_of_length_le (Nat.le_of_eq ?_)
      clear hP hcell hsc c1 s1 r1 hvl hspot hne hv
      induction vs with
      | nil => simp
      | cons v vs ih => rw [List.flatMap_cons, List.length_append, hfl v (List.mem_cons_self ..), ih (fun u hu => hfl u (List.mem_cons_of_mem _ hu)), List.length_cons, Nat.add_mul, Nat.one_mul, Nat.add_comm]
   ·unfold Ty
    rw [hu]
    have := r1.length
    exact ⟨ps, rfl, by omega, t1⟩
  ·rename_i fs hu
   obtain ⟨xs, n', hn', _, hlen, hxl, hf⟩ := DataW.trod_struct hu hx
   injection hn' with hn'
   subst hn'
   obtain ⟨ρ1, σ1, cs', ps, l1, e1, s1, r1, t1, n1⟩ := Dy (open_any hT n) hlen fs.toList 0 ρ σ htt (fun f hf' => by
    obtain ⟨i, hi, rfl⟩ := List.mem_iff_getElem.1 hf'
    simp only [Array.length_toList] at hi
    refine ⟨xs[i], ?_⟩
    rw [hf i _ (by simp [hi])]
    exact List.getElem?_eq_getElem (by omega)) hL
   rw [List.drop_zero] at e1
   exact ⟨ρ1, σ1, cs', ps, l1, e1, s1, r1, by unfold Ty; rw [hu]; exact t1, by omega⟩
  ·cases htt
end
end Go.Proofs.YthogkmcahnkkoaaGreatDoor
namespace Go.Proofs.YthogkmcahnkkoaaGreatDoor
open Go.RowKit
theorem TV (w : World) (hw : Uu w) : Laid (fun k => ⟨k, 0, 0⟩) AW0 w := by
 have hn : ∀ k, (AW0.get k).kind = 0 := fun k => by
  have e : ∀ {α : Type} (d : α) (k : Nat), fA d [] k = d := fun d k => by cases k <;> rfl
  simp [AW.get, AW0, e, eu]
 exact ⟨Uw _ w hw, fun k hk => hk.1.1 (hn k), fun k e => by rw [hn k] at e; cases e⟩
theorem O6 {P : Program} {g : Nat} {xs : List Value} {ρ : Rn} {σ : AW} {w : World} (hL : Laid ρ σ w) (hx : ∀ x ∈ xs, Sc σ.dom x) (h : C P g xs σ fun u _ => u = .bool true) :
  Calls P g (xs.map (ren ρ)).toArray w fun e w' => e = .returned (.bool true) ∧ Below w.heap.size w w' := by
 obtain ⟨u, σ', ⟨_, hc⟩, rfl⟩ := h
 refine Calls.mono (hc ρ w hL.rel hx) ?_
 rintro e w' ⟨ρ', rfl, hst, _⟩
 exact ⟨rfl, hst.os, hst.tape, hst.output, hst.size, fun b hb => hst.same b hb (fun k hk => absurd hk (hL.dead k))⟩
theorem Dz {P : Program} {H : Type} {enc : TypeId × Value → H} {spare : Nat → Bool} {held : Bool} {T : List TypeId} (hT : JI P T = true) {w : World} {ρ : Rn} {σ : AW} (hL : Laid ρ σ w) {t : TypeId} (ht : t ∈ T) {cs : Array Value} {d : DataW H} {ps : List MemPlace}
  (h : DataW.Trod enc P w 0 spare held t (.agg cs) d ps) : ∃ n ρ' σ' l qs, Lays ρ σ w ρ' σ' ∧ (.agg cs : Value) = ren ρ' (.agg ⟨l⟩) ∧ Sc σ'.dom (.agg ⟨l⟩) ∧ Rd σ' (fun _ => True) (.agg ⟨qs⟩) (.agg ⟨l⟩) ∧ Ty P n t qs ∧ l.length = P.cellsOf t ∧ l.all gu = true := by
 obtain ⟨n, hf⟩ := h
 obtain ⟨ρ', σ', l, qs, h1, h2, h3, h4, h5, h6⟩ := open_any hT n t cs.toList ρ σ ht ⟨_, hf⟩ hL
 refine ⟨n, ρ', σ', l, qs, h1, ?_, Ej (fun v hv => (h3 v hv).1), jh.2 ⟨l, rfl, h4⟩, h5, h6, List.all_eq_true.2 fun v hv => (h3 v hv).2⟩
 obtain ⟨c⟩ := cs
 rw [lG, List.map_toArray]
 simp only at h2
 rw [h2]
end Go.Proofs.YthogkmcahnkkoaaGreatDoor
namespace Go.Proofs.YthogkmcahnkkoaaGreatDoor
open Go.RowKit
set_option maxRecDepth 10000
set_option linter.unusedSimpArgs false
set_option linter.unusedVariables false
def TyL (R : TypeId → List Value → Prop) : List TypeId → List Value → Prop
 | [], ps => ps = []
 | t :: l, ps => ∃ a b, ps = a ++ b ∧ R t a ∧ TyL R l b
theorem aaD {R : TypeId → List Value → Prop} : ∀ {fs : List Field} {ps : List Value}, TyF R fs ps → TyL R (fs.map (·.type)) ps
 | [], _, h => h
 | _ :: _, _, ⟨a, b, e, h1, h2⟩ => ⟨a, b, e, h1, aaD h2⟩
def Qw (P : Program) (t : TypeId) : Option (List TypeId) := match P.underlying t with
 | some (.struct fs) => some (fs.toList.map (·.type))
 | _ => none
section
variable {P : Program} {n : Nat} {t : TypeId} {ps : List Value}
theorem lS {ts : List TypeId} (hu : Qw P t = some ts) (h : Ty P n t ps) : ∃ m, n = m + 1 ∧ TyL (Ty P m) ts ps := by
 cases n with
 | zero => exact h.elim
 | succ m =>
  refine ⟨m, rfl, ?_⟩
  unfold Qw at hu
  unfold Ty at h
  split at hu
  ·rename_i fs hfs
   rw [hfs] at h
   injection hu with hu
   subst hu
   exact aaD h
  ·cases hu
theorem ab6 (hu : P.underlying t = some (.int .i64)) (h : Ty P n t ps) : ∃ m, ps = [.int .i64 m] ∧ DR m := by
 cases n with
 | zero => exact h.elim
 | succ k =>
  unfold Ty at h
  rw [hu] at h
  obtain ⟨m, e, hw⟩ := h
  refine ⟨m, e, ?_⟩
  have : IntKind.i64.min ≤ m ∧ m ≤ IntKind.i64.max := by
   simpa [Lit.wf] using hw
  exact this
theorem ZI (hu : P.underlying t = some .bool) (h : Ty P n t ps) : ∃ b, ps = [.bool b] := by
 cases n with
 | zero => exact h.elim
 | succ k =>
  unfold Ty at h
  rw [hu] at h
  exact h
theorem ab7 (hu : P.underlying t = some .string) (h : Ty P n t ps) : ∃ s : ByteArray, ps = [.string s] ∧ s.size ≤ maxLen := by
 cases n with
 | zero => exact h.elim
 | succ k =>
  unfold Ty at h
  rw [hu] at h
  exact h
theorem mQ {e : TypeId} {w : Nat} (hu : P.underlying t = some (.slice e)) (hw : P.cellsOf e = w) (h : Ty P n t ps) : ∃ m l, n = m + 1 ∧ ps = [sl w l] ∧ l.length ≤ maxLen ∧ ∀ x ∈ l, ∃ qs, ZH P e qs x ∧ Ty P m e qs := by
 cases n with
 | zero => exact h.elim
 | succ k =>
  unfold Ty at h
  rw [hu] at h
  obtain ⟨l, e, h1, h2⟩ := h
  exact ⟨k, l, rfl, by rw [e, hw], h1, h2⟩
theorem lT {e : TypeId} {qs : List Value} {x : Value} (hi : dF P e = some true) (h : ZH P e qs x) : x = .agg ⟨qs⟩ := by
 unfold ZH at h
 rw [hi] at h
 exact h
theorem ZJ {e : TypeId} {qs : List Value} {x : Value} (hi : dF P e = some false) (h : ZH P e qs x) : qs = [x] := by
 unfold ZH at h
 rw [hi] at h
 exact h
end
/-! The types of trees. -/
section
variable {n : Nat} {ps : List Value}
theorem DC (h : Ty Tryz.prog n 3 ps) : ∃ m, ps = [.int .i64 m] ∧ DR m := ab6 (by kernel_rfl) h
theorem O7 (h : Ty Tryz.prog n 4 ps) : ∃ b, ps = [.bool b] := ZI (by kernel_rfl) h
theorem AY (h : Ty Tryz.prog n 9 ps) : ∃ s : ByteArray, ps = [.string s] ∧ s.size ≤ maxLen := ab7 (by kernel_rfl) h
theorem ab8 (h : Ty Tryz.prog n 38 ps) : ∃ l, ps = [sl 1 l] ∧ LL bM (KN bM) l := by
 obtain ⟨m, l, rfl, e, h1, h2⟩ := mQ (e := 9) (w := 1) (by kernel_rfl) (by kernel_rfl) h
 refine ⟨l, e, h1, fun x hx => ?_⟩
 obtain ⟨qs, he, hq⟩ := h2 x hx
 have := ZJ (by kernel_rfl) he
 subst this
 obtain ⟨s, e2, hs⟩ := AY hq
 injection e2 with e2
 exact ⟨s, e2, hs⟩
def TsE (n : Nat) : Prop := ∀ ps, Ty Tryz.prog n 42 ps → (bT bM n).e (.agg ⟨ps⟩)
def TsQ (n : Nat) : Prop := ∀ ps, Ty Tryz.prog n 61 ps → (bT bM n).q (.agg ⟨ps⟩)
def TsF (n : Nat) : Prop := ∀ ps, Ty Tryz.prog n 92 ps → (bT bM n).f (.agg ⟨ps⟩)
theorem wz {k : Nat} (ih : ∀ m < k, TsE m) (hn : n < k + 1) (h : Ty Tryz.prog n 39 ps) : ∃ l, ps = [sl 6 l] ∧ LL bM (bT bM k).e l := by
 obtain ⟨m, l, rfl, e, h1, h2⟩ := mQ (e := 42) (w := 6) (by kernel_rfl) (by kernel_rfl) h
 refine ⟨l, e, h1, fun x hx => ?_⟩
 obtain ⟨qs, he, hq⟩ := h2 x hx
 rw [lT (by kernel_rfl) he]
 exact (Me (by omega)).e _ (ih m (by omega) _ hq)
theorem yc {k : Nat} (ih : ∀ m < k, TsQ m) (hn : n < k + 1) (h : Ty Tryz.prog n 40 ps) : ∃ l, ps = [sl 10 l] ∧ LL bM (bT bM k).q l := by
 obtain ⟨m, l, rfl, e, h1, h2⟩ := mQ (e := 61) (w := 10) (by kernel_rfl) (by kernel_rfl) h
 refine ⟨l, e, h1, fun x hx => ?_⟩
 obtain ⟨qs, he, hq⟩ := h2 x hx
 rw [lT (by kernel_rfl) he]
 exact (Me (by omega)).q _ (ih m (by omega) _ hq)
theorem Qx {k : Nat} (ih : ∀ m < k, TsF m) (hn : n < k + 1) (h : Ty Tryz.prog n 58 ps) : ∃ l, ps = [sl 7 l] ∧ LL bM (bT bM k).f l := by
 obtain ⟨m, l, rfl, e, h1, h2⟩ := mQ (e := 92) (w := 7) (by kernel_rfl) (by kernel_rfl) h
 refine ⟨l, e, h1, fun x hx => ?_⟩
 obtain ⟨qs, he, hq⟩ := h2 x hx
 rw [lT (by kernel_rfl) he]
 exact (Me (by omega)).f _ (ih m (by omega) _ hq)
theorem ZK {k : Nat} (ih : ∀ m < k, TsE m) (hn : n < k + 1) (h : Ty Tryz.prog n 57 ps) : ∃ l, ps = [sl 7 l] ∧ LL bM (KI bM (bT bM k).e) l := by
 obtain ⟨m, l, rfl, e, h1, h2⟩ := mQ (e := 87) (w := 7) (by kernel_rfl) (by kernel_rfl) h
 refine ⟨l, e, h1, fun x hx => ?_⟩
 obtain ⟨qs, he, hq⟩ := h2 x hx
 rw [lT (by kernel_rfl) he]
 obtain ⟨j, rfl, a, _, rfl, ha, b, _, rfl, hb, rfl⟩ := lS (ts := [42, 9]) (by kernel_rfl) hq
 obtain ⟨s, rfl, hs⟩ := AY hb
 exact ⟨.agg ⟨a⟩, s, rfl, hs, (Me (by omega)).e _ (ih j (by omega) _ ha)⟩
theorem ab9 {k : Nat} (ih : ∀ m < k, TsE m) (hn : n < k + 1) (h : Ty Tryz.prog n 59 ps) : ∃ l, ps = [sl 7 l] ∧ LL bM (KK (bT bM k).e) l := by
 obtain ⟨m, l, rfl, e, h1, h2⟩ := mQ (e := 89) (w := 7) (by kernel_rfl) (by kernel_rfl) h
 refine ⟨l, e, h1, fun x hx => ?_⟩
 obtain ⟨qs, he, hq⟩ := h2 x hx
 rw [lT (by kernel_rfl) he]
 obtain ⟨j, rfl, a, _, rfl, ha, b, _, rfl, hb, rfl⟩ := lS (ts := [42, 4]) (by kernel_rfl) hq
 obtain ⟨s, rfl⟩ := O7 hb
 exact ⟨.agg ⟨a⟩, s, rfl, (Me (by omega)).e _ (ih j (by omega) _ ha)⟩
end
theorem O8 (n : Nat) : TsE n ∧ TsQ n ∧ TsF n := by
 induction n using Nat.strongRecOn with
 | ind n ih =>
 have iE : ∀ m < n, TsE m := fun m h => (ih m h).1
 have iQ : ∀ m < n, TsQ m := fun m h => (ih m h).2.1
 have iF : ∀ m < n, TsF m := fun m h => (ih m h).2.2
 refine ⟨fun ps h => ?_, fun ps h => ?_, fun ps h => ?_⟩
 ·obtain ⟨k, rfl, c0, _, rfl, h0, c1, _, rfl, h1, c2, _, rfl, h2, c3, _, rfl, h3, c4, _, rfl, h4, c5, _, rfl, h5, rfl⟩ := lS (ts := [3, 3, 9, 9, 39, 40]) (by kernel_rfl) h
  obtain ⟨a, rfl, ha⟩ := DC h0
  obtain ⟨b, rfl, hb⟩ := DC h1
  obtain ⟨s, rfl, hs⟩ := AY h2
  obtain ⟨t, rfl, ht⟩ := AY h3
  obtain ⟨l, rfl, hl⟩ := wz (k := k) (fun m h => iE m (by omega)) (by omega) h4
  obtain ⟨r, rfl, hr⟩ := yc (k := k) (fun m h => iQ m (by omega)) (by omega) h5
  exact ⟨a, b, s, t, l, r, rfl, ha, hb, hs, ht, hl, hr⟩
 ·obtain ⟨k, rfl, c0, _, rfl, h0, c1, _, rfl, h1, c2, _, rfl, h2, c3, _, rfl, h3, c4, _, rfl, h4, c5, _, rfl, h5, c6, _, rfl, h6, c7, _, rfl, h7, c8, _, rfl, h8, c9, _, rfl, h9, rfl⟩ := lS (ts := [3, 4, 57, 58, 39, 39, 39, 59, 3, 40]) (by kernel_rfl) h
  obtain ⟨a, rfl, ha⟩ := DC h0
  obtain ⟨d, rfl⟩ := O7 h1
  obtain ⟨items, rfl, hi⟩ := ZK (k := k) (fun m h => iE m (by omega)) (by omega) h2
  obtain ⟨froms, rfl, hf⟩ := Qx (k := k) (fun m h => iF m (by omega)) (by omega) h3
  obtain ⟨wh, rfl, hw⟩ := wz (k := k) (fun m h => iE m (by omega)) (by omega) h4
  obtain ⟨gr, rfl, hg⟩ := wz (k := k) (fun m h => iE m (by omega)) (by omega) h5
  obtain ⟨hv, rfl, hh⟩ := wz (k := k) (fun m h => iE m (by omega)) (by omega) h6
  obtain ⟨or, rfl, ho⟩ := ab9 (k := k) (fun m h => iE m (by omega)) (by omega) h7
  obtain ⟨b, rfl, hb⟩ := DC h8
  obtain ⟨kids, rfl, hk⟩ := yc (k := k) (fun m h => iQ m (by omega)) (by omega) h9
  exact ⟨a, d, b, items, froms, wh, gr, hv, or, kids, rfl, ha, hb, hi, hf, hw, hg, hh, ho, hk⟩
 ·obtain ⟨k, rfl, c0, _, rfl, h0, c1, _, rfl, h1, c2, _, rfl, h2, c3, _, rfl, h3, c4, _, rfl, h4, c5, _, rfl, h5, c6, _, rfl, h6, rfl⟩ := lS (ts := [3, 9, 4, 9, 40, 58, 39]) (by kernel_rfl) h
  obtain ⟨a, rfl, ha⟩ := DC h0
  obtain ⟨t, rfl, ht⟩ := AY h1
  obtain ⟨v, rfl⟩ := O7 h2
  obtain ⟨s, rfl, hs⟩ := AY h3
  obtain ⟨q, rfl, hq⟩ := yc (k := k) (fun m h => iQ m (by omega)) (by omega) h4
  obtain ⟨kids, rfl, hk⟩ := Qx (k := k) (fun m h => iF m (by omega)) (by omega) h5
  obtain ⟨on, rfl, ho⟩ := wz (k := k) (fun m h => iE m (by omega)) (by omega) h6
  exact ⟨a, v, t, s, q, kids, on, rfl, ha, ht, hs, hq, hk, ho⟩
theorem ZL (n : Nat) : ∀ ps, Ty Tryz.prog n 54 ps → vF bM n (.agg ⟨ps⟩) := by
 induction n using Nat.strongRecOn with
 | ind n ih =>
 intro ps h
 obtain ⟨k, rfl, c0, _, rfl, h0, c1, _, rfl, h1, c2, _, rfl, h2, c3, _, rfl, h3, c4, _, rfl, h4, c5, _, rfl, h5, c6, _, rfl, h6, c7, _, rfl, h7, c8, _, rfl, h8, rfl⟩ := lS (ts := [3, 3, 9, 38, 39, 40, 39, 24, 24]) (by kernel_rfl) h
 have blk : ∀ {ps}, Ty Tryz.prog k 24 ps → ∃ l, ps = [sl 9 l] ∧ LL bM (vF bM k) l := fun {ps} h => by
  obtain ⟨m, l, rfl, e, h1, h2⟩ := mQ (e := 54) (w := 9) (by kernel_rfl) (by kernel_rfl) h
  refine ⟨l, e, h1, fun x hx => ?_⟩
  obtain ⟨qs, he, hq⟩ := h2 x hx
  rw [lT (by kernel_rfl) he]
  exact MB (by omega) _ (ih m (by omega) _ hq)
 obtain ⟨a, rfl, ha⟩ := DC h0
 obtain ⟨b, rfl, hb⟩ := DC h1
 obtain ⟨t, rfl, ht⟩ := AY h2
 obtain ⟨nm, rfl, hn⟩ := ab8 h3
 obtain ⟨es, rfl, he⟩ := wz (k := k) (fun m h => (O8 m).1) (by omega) h4
 obtain ⟨qs, rfl, hq⟩ := yc (k := k) (fun m h => (O8 m).2.1) (by omega) h5
 obtain ⟨wh, rfl, hw⟩ := wz (k := k) (fun m h => (O8 m).1) (by omega) h6
 obtain ⟨bo, rfl, ZC⟩ := blk h7
 obtain ⟨ot, rfl, hot⟩ := blk h8
 exact ⟨a, b, t, nm, es, qs, wh, bo, ot, rfl, ha, hb, ht, hn, he, hq, hw, ZC, hot⟩
theorem MW {n : Nat} {ps : List Value} (h : Ty Tryz.prog n 24 ps) : ∃ l, ps = [sl 9 l] ∧ LL bM (vF bM n) l := by
 obtain ⟨m, l, rfl, e, h1, h2⟩ := mQ (e := 54) (w := 9) (by kernel_rfl) (by kernel_rfl) h
 refine ⟨l, e, h1, fun x hx => ?_⟩
 obtain ⟨qs, he, hq⟩ := h2 x hx
 rw [lT (by kernel_rfl) he]
 exact MB (by omega) _ (ZL m _ hq)
theorem JK {n : Nat} {ps : List Value} (h : Ty Tryz.prog n 22 ps) : ∃ l, ps = [sl 2 l] ∧ l.length ≤ maxLen ∧ ∀ q ∈ l, KV q := by
 obtain ⟨m, l, rfl, e, h1, h2⟩ := mQ (e := 52) (w := 2) (by kernel_rfl) (by kernel_rfl) h
 refine ⟨l, e, h1, fun x hx => ?_⟩
 obtain ⟨qs, he, hq⟩ := h2 x hx
 rw [lT (by kernel_rfl) he]
 obtain ⟨j, rfl, a, _, rfl, ha, b, _, rfl, hb, rfl⟩ := lS (ts := [9, 3]) (by kernel_rfl) hq
 obtain ⟨s, rfl, hs⟩ := AY ha
 obtain ⟨i, rfl, hi⟩ := DC hb
 exact ⟨s, .i64, i, rfl⟩
theorem XC {n : Nat} {ps : List Value} (h : Ty Tryz.prog n 23 ps) : ∃ l, ps = [sl 4 l] ∧ l.length ≤ maxLen ∧ ∀ q ∈ l, KP n q := by
 obtain ⟨m, l, rfl, e, h1, h2⟩ := mQ (e := 36) (w := 4) (by kernel_rfl) (by kernel_rfl) h
 refine ⟨l, e, h1, fun x hx => ?_⟩
 obtain ⟨qs, he, hq⟩ := h2 x hx
 rw [lT (by kernel_rfl) he]
 obtain ⟨j, rfl, c0, _, rfl, h0, c1, _, rfl, h1, c2, _, rfl, h2, c3, _, rfl, h3, rfl⟩ := lS (ts := [9, 22, 22, 24]) (by kernel_rfl) hq
 obtain ⟨s, rfl, hs⟩ := AY h0
 obtain ⟨p1, rfl, hl1, hv1⟩ := JK h1
 obtain ⟨p2, rfl, hl2, hv2⟩ := JK h2
 obtain ⟨b, rfl, hb⟩ := MW h3
 exact ⟨s, p1, p2, b, rfl, hv1, Nat.le_trans hl1 dZ, hv2, Nat.le_trans hl2 dZ, hb.mono (fun p hp => MB (by omega) p hp)⟩
theorem Iq {n : Nat} {ps : List Value} (h : Ty Tryz.prog n 26 ps) : ∃ vars procs body, (Value.agg ⟨ps⟩) = zq vars procs body ∧ (∀ q ∈ vars, KV q) ∧ vars.length ≤ 9223372036854775807 ∧ (∀ q ∈ procs, KP n q) ∧ procs.length ≤ 9223372036854775807 ∧ LL bM (vF bM n) body := by
 obtain ⟨j, rfl, c0, _, rfl, h0, c1, _, rfl, h1, c2, _, rfl, h2, rfl⟩ := lS (ts := [22, 23, 24]) (by kernel_rfl) h
 obtain ⟨p1, rfl, hl1, hv1⟩ := JK h0
 obtain ⟨p2, rfl, hl2, hv2⟩ := XC h1
 obtain ⟨b, rfl, hb⟩ := MW h2
 refine ⟨p1, p2, b, rfl, hv1, Nat.le_trans hl1 dZ, fun q hq => ?_, Nat.le_trans hl2 dZ, hb.mono (fun p hp => MB (by omega) p hp)⟩
 obtain ⟨nm, a, b, c, e, e1, e2, e3, e4, e5⟩ := hv2 q hq
 exact ⟨nm, a, b, c, e, e1, e2, e3, e4, e5.mono (fun p hp => MB (by omega) p hp)⟩
end Go.Proofs.YthogkmcahnkkoaaGreatDoor
