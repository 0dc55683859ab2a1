/- The program's reader: primaries and comparisons. The program's reader: primaries and comparisons. -/
import Derived.Test.YthogkmcahnkkoaaGreatDoorJ08
namespace Go.Proofs.YthogkmcahnkkoaaGreatDoor
open Go.RowKit
set_option maxRecDepth 10000
set_option linter.unusedSimpArgs false
set_option linter.unusedVariables false
section
variable {r b : Nat} {T : List Tk}
def uo : Prop := ∀ (σ : AW) (x : ByteArray), C Tryz.prog 89 [.string x] σ fun v σ' => v = .bool (qg x) ∧ σ' = σ
theorem YQ (hW : uo) {K : gG} {d : Int} (hK : JO K r b T d) : Reads (fun _ => True) 6 r b T d 227 [.pointer (some ⟨r, 0, none⟩)] (ES K) := by
 intro σ s he h
 have hlr := h.lr
 have hlb := h.lb
 refine pK Tryz.func227 Tryz.ntmps227 Tryz.results227 fun A hz a0 => ?_
 refine jR a0 ?_
 refine aj (aU a0) ?_
 refine C.mono (zi hW (h.kp ((Kp.refl σ).push _))) ?_
 rintro _ σ1 ⟨rfl, h1, g1⟩
 have wI := g1.next
 simp only [ah] at wI
 have nN := (g1.get σ.next (by first | omega | (simp only [ah, au]; first | done | omega)) (by omega)).trans aA
 refine jR a0 ?_
 refine aj (aU a0) ?_
 refine C.mono (gV h1 mP) ?_
 rintro _ σ2 ⟨rfl, h2, g2⟩
 have nM := g2.next
 have kU := (g2.get σ.next (by omega) (by omega)).trans nN
 have e : ES K s = if (aB mP (bZ s).2).1 = true then (kH 5 0 (bZ (aB mP (bZ s).2).2).1 (bZ s).1 [] [], (bZ (aB mP (bZ s).2).2).2)
   else if uU (bZ s).1 = true then (if eF qh (aB mP (bZ s).2).2 = true then (kH 15 0 (bZ s).1 eB (qQ K (bZ s).1 (aB mP (bZ s).2).2).1 [], (qQ K (bZ s).1 (aB mP (bZ s).2).2).2) else (kH 5 0 (bZ s).1 eB [] [], (aB mP (bZ s).2).2))
   else (kH 5 0 (bZ s).1 eB [] [], (aB mP (bZ s).2).2) := by
  unfold ES
  rw [SM.bind_run, jK]
  by_cases q1 : (aB mP (bZ s).2).1 = true
  ·rw [if_pos q1, if_pos q1]; rfl
  ·rw [if_neg q1, if_neg q1]
   by_cases q2 : uU (bZ s).1 = true
   ·rw [if_pos q2, if_pos q2, tu]; rfl
   ·rw [if_neg q2, if_neg q2]; rfl
 rw [e]
 cases ht : (aB mP (bZ s).2).1 with
 | true =>
  refine jR a0 ?_
  refine aj (aU a0) ?_
  refine C.mono (zi hW h2) ?_
  rintro _ σ3 ⟨rfl, h3, g3⟩
  have tq := (g3.get σ.next (by omega) (by omega)).trans kU
  refine gQ a0 tq ?_
  refine dG ?_
  exact aX ((Ow.refl _ _).set (Nat.le_refl _) _) ((g1.unpush.trans g2).trans g3) h3 hlr hlb (iM (aW _ _ _) (aW _ _ _))
 | false =>
  refine jR a0 ?_
  refine aj (aU a0) ?_
  refine C.mono (Rq _ _) ?_
  rintro _ _ ⟨rfl, rfl⟩
  cases hg : uU (bZ s).1 with
  | false =>
   refine gQ a0 kU ?_
   refine dG ?_
   exact aX ((Ow.refl _ _).set (Nat.le_refl _) _) (g1.unpush.trans g2) h2 hlr hlb (iM (aW _ _ _) (aW _ _ _))
  | true =>
   refine jR a0 ?_
   refine aj (aU a0) ?_
   refine C.mono (zh h2 qh) ?_
   rintro _ σ3 ⟨rfl, k3⟩
   have tq := (k3.get σ.next (by omega)).trans kU
   have Dl := k3.next
   cases hs : eF qh (aB mP (bZ s).2).2 with
   | false =>
    refine gQ a0 tq ?_
    refine dG ?_
    exact aX ((Ow.refl _ _).set (Nat.le_refl _) _) ((g1.unpush.trans g2).kp k3) (h2.kp k3) hlr hlb (iM (aW _ _ _) (aW _ _ _))
   | true =>
    refine jR a0 ?_
    refine aj (aU a0) ?_
    refine C.mono (Oa hK _ _ _ trivial (h2.kp k3)) ?_
    rintro v4 σ4 ⟨t4, h4, g4⟩
    have uG := (g4.get σ.next (by omega) (by omega)).trans tq
    have o4 := ay t4
    obtain ⟨vl, vc, va, rfl⟩ : ∃ a l c, v4 = .slice a l c := by
     obtain ⟨m, _, hs⟩ := oO.1 t4
     rcases hs with ⟨_, a, c, rfl⟩ | ⟨b, o, c, k, e, z, cs, rfl, _⟩
     ·exact ⟨_, _, _, rfl⟩
     ·exact ⟨_, _, _, rfl⟩
    refine dS a0 uG o4 ?_
    refine dG ?_
    exact aX ((Ow.refl _ _).set (Nat.le_refl _) _) (((g1.unpush.trans g2).kp k3).trans g4) h4 hlr hlb (iM ((t4.ks ((Ks.refl σ4).set (.inr (by rw [uG])) _)).keep (fun _ _ _ _ => rfl) (Nat.le_refl _) (fun k hk _ => by have := hk; omega)) (aW _ _ _))
theorem Ow.mono {N N' : Nat} {σ σ' : AW} (h : Ow N σ σ') (hn : N' ≤ N) : Ow N' σ σ' := ⟨h.next, fun k h1 h2 => h.get k h1 (by omega)⟩
def BP (K : gG) : List ByteArray → List Tr → SM (List Tr)
 | [], acc => pure acc
 | w :: ws, acc => do
  dA w
  let x ← K.or
  BP K ws (acc ++ [x])
theorem Ru (K : gG) (s : Sy) : D5 K s = (kH 11 0 eB eB (BP K [lX, lY, jP] [] s).1 [], (dA EO (BP K [lX, lY, jP] [] s).2).2) := rfl
def Qi (σ : AW) (N e n : Nat) (v : Value) (vs ps : List Value) : Prop := (vs = [] ∧ ps = [] ∧ v = .slice none 0 0) ∨ Grow σ N e n v vs ps
theorem Vl {P : Program} {σ : AW} {t e n PO M o : Nat} {zv : Value} (hu : P.underlying t = some (.slice e)) (AZ : (P.info? e).map (fun i => (i.zero, i.size, i.bytes)) = some (some zv, n, PO)) (hz : (aF zv).length = n) {l : List Value} (hM : σ.get M = ⟨1, e, o, l⟩) (hl : l.length = n) (ho : l.all gu = true) (hb : 770 * PO ≤ 281474976710656) :
  ig P σ t t (.slice none 0 0) (.slice (some ⟨M, 0, none⟩) 1 2) = some (.slice (some ⟨σ.next, 0, none⟩) 1 1, σ.push ⟨2, e, n, l⟩) := by
 cases hi : P.info? e with
 | none => rw [hi] at AZ; cases AZ
 | some i =>
  rw [hi] at AZ
  simp only [Option.map_some, Option.some.injEq, Prod.mk.injEq] at AZ
  obtain ⟨h1, h2, h3⟩ := AZ
  have hsrc : yQ P σ n t (.slice (some ⟨M, 0, none⟩) 1 2) = some (1, l) := by
   have e2 : List.take n (List.drop 0 l) = l := by rw [List.drop_zero, List.take_of_length_le (by omega)]
   simp only [yQ, hu, rowOf, hM, Nat.one_mul, e2, hl, ho, and_self, if_true]
  simp only [ig, hu, hi, h2, hsrc, show ¬ (1 = 0) by decide, if_false, sS, h1, h3, hz]
  rw [if_pos ⟨trivial, by omega, by simpa using hb, by omega⟩]
  simp
theorem Rw {P : Program} {r : Nat} {σ3 σ4 : AW} {N t e n PO : Nat} {zv v p : Value} {vs ps l : List Value} (hu : P.underlying t = some (.slice e)) (AZ : (P.info? e).map (fun i => (i.zero, i.size, i.bytes)) = some (some zv, n, PO)) (hz : (aF zv).length = n) (hn : 0 < n)
  (hr : r < N) (hN : N ≤ σ3.next) (hG : Qi σ3 N e n v vs ps) (g : Gr r σ3 σ4) (ht : TE n σ4 (fun k => σ3.next ≤ k) (.agg ⟨l⟩) p) (hb : (2 * (vs.length + 1) + 768) * PO ≤ 281474976710656) (hlen : vs.length + 1 ≤ 1000000000) :
  ∃ v' σ', ig P (σ4.push ⟨1, e, 1, l⟩) t t v (.slice (some ⟨σ4.next, 0, none⟩) 1 2) = some (v', σ') ∧ Grow σ' N e n v' (vs ++ [.agg ⟨l⟩]) (ps ++ [p]) ∧ Ow N σ4 σ' ∧ (∀ k, k < σ4.next → (σ4.get k).esz = 0 → σ'.get k = σ4.get k) := by
 rcases hG with ⟨rfl, rfl, rfl⟩ | hG
 ·obtain ⟨t4, _, e2, hl4, Na⟩ := ht
  injection e2 with e2
  injection e2 with e2
  subst e2
  have nx := g.next
  refine ⟨_, _, Vl hu AZ hz aA hl4 Na (by simpa using hb), ⟨σ4.next + 1, 1, 2, n, rfl, (Ja rfl).trans (by simp [aF]), .inr ⟨rfl, rfl, rfl⟩, by omega, Nat.lt_succ_self _, ?_, ?_⟩, ((Ow.refl N σ4).push _).push _, fun j hj _ => by rw [aC (by first | omega | (simp only [ah, au]; first | done | omega)), aC (by omega)]⟩
  ·refine nG.one (t4.keep (fun j hj hlt _ => by rw [aC (by first | omega | (simp only [ah, au]; first | done | omega)), aC (by omega)]) (by first | omega | (simp only [ah, au]; first | done | omega)) (fun j hj hlt => ⟨by have := hj; omega, by omega⟩))
  ·intro u hu
   have hu : u = .agg ⟨l⟩ := by simpa using hu
   subst hu
   exact ⟨l, rfl, hl4, Na⟩
 ·exact Ah hu AZ hz hn hr hN hG g ht hb hlen
theorem Vm {K : gG} {d : Int} (hK : JO K r b T d) : Reads (fun _ => True) 6 r b T d 224 [.pointer (some ⟨r, 0, none⟩)] (D5 K) := by
 intro σ s he h
 have hlr := h.lr
 have hlb := h.lb
 refine pK Tryz.func224 Tryz.ntmps224 Tryz.results224 fun A hz a0 => ?_
 refine jR a0 ?_
 refine dB (dI (fun m B σ1 => ∃ (j : Nat) (s1 : Sy) (ps vs : List Value) (v : Value), j ≤ 3 ∧ m = 3 - j ∧ vs.length = j ∧ B.size = 27 ∧ B.get 0 = some (.pointer (some ⟨r, 0, none⟩)) ∧ B.get 2 = some (.pointer (some ⟨σ.next, 0, none⟩)) ∧ B.get 3 = some (.pointer (some ⟨σ.next + 1, 0, none⟩)) ∧ B.get 7 = some (.slice (some ⟨σ.next + 2, 0, none⟩) 3 6) ∧ B.get 8 = some (.int .i64 3) ∧ B.get 9 = some (.int .i64 (j : Int)) ∧ lu σ1 r b T d s1 ∧ Gr r σ σ1 ∧ σ.next + 3 ≤ σ1.next ∧ σ1.get σ.next = ⟨1, 42, 0, [.int .i64 0, .int .i64 0, .string ⟨#[]⟩, .string ⟨#[]⟩, .slice none 0 0, .slice none 0 0]⟩ ∧ σ1.get (σ.next + 1) = ⟨1, 42, 0, [.int .i64 11, .int .i64 0, .string ⟨#[]⟩, .string ⟨#[]⟩, v, .slice none 0 0]⟩ ∧ σ1.get (σ.next + 2) = ⟨1, 9, 1, [lX, lY, jP].map Value.string⟩ ∧ (∃ va vl vc, v = .slice va vl vc) ∧ Qi σ1 (σ.next + 3) 42 6 v vs ps ∧ BP K ([lX, lY, jP].drop j) ps s1 = BP K [lX, lY, jP] [] s) ?_ (m := 3) (by refine' ⟨0, s, [], [], .slice none 0 0, by omega, rfl, rfl, ?_, ?_, ?_, ?_, ?_, ?_, ?_, h.kp ((((Kp.refl σ).push _).push _).set (by first | omega | (simp only [ah, au]; first | done | omega)) _ |>.push _), (((((Kp.refl σ).push _).push _).set (by first | omega | (simp only [ah, au]; first | done | omega)) _ |>.push _).gr r), (by first | omega | (simp only [ah, au]; first | done | omega)), ?_, ?_, ?_, ⟨_, _, _, rfl⟩, .inl ⟨rfl, rfl, rfl⟩, rfl⟩; any_goals (first | exact aU a0 | fail)))
 rintro m B σ1 ⟨j, s1, ps, vs, v, hj, rfl, hvl, hz, b0, b2, b3, b7, b8, b9, h1, g1, nx, gN, gM, gW, ⟨va, vl, vc, rfl⟩, hG, hloop⟩
 by_cases hlt : j < 3
 ·have c1 : decide ((j : Int) < 3) = true := by simp; omega
  have hlt' : j < ([lX, lY, jP] : List ByteArray).length := hlt
  have e1 : bU Tryz.prog 9 ⟨σ.next + 2, 0, none⟩ 3 (j : Int) = some (.pointer (some ⟨σ.next + 2, j, none⟩)) := by rw [vP Bq hlt, je]; simp
  have e2 : ([lX, lY, jP].map Value.string)[j]? = some (.string ([lX, lY, jP] : List ByteArray)[j]) := by rw [List.getElem?_map, List.getElem?_eq_getElem hlt']; rfl
  rw [List.drop_eq_getElem_cons hlt'] at hloop
  generalize ([lX, lY, jP] : List ByteArray)[j] = ww at e2 hloop
  generalize hWS : ([lX, lY, jP] : List ByteArray).map Value.string = WS at gW e2
  refine aY b0 b2 b3 b7 b8 b9 c1 (cJ e1 (cJ e2 gW)) ?_
  refine aj (kC b0 b2 b3 b7 b8 b9 c1 (cJ e1 (cJ e2 gW))) ?_
  refine C.mono (jX h1 ww) ?_
  rintro _ σ2 ⟨h2, g2⟩
  have nM := g2.next
  have kU := (g2.get σ.next (by omega) (by omega)).trans gN
  have sF := (g2.get (σ.next + 1) (by omega) (by omega)).trans gM
  have gW2 := (g2.get (σ.next + 2) (by omega) (by omega)).trans gW
  refine kR b0 b2 b3 b7 b8 b9 ?_
  refine bY mixed (by kernel_rfl) (by kernel_rfl) ?_
  refine XL b0 b2 b3 sF ?_
  refine bD (qx b0 b2 b3 sF) ?_
  refine C.mono (hK.or _ _ trivial h2) ?_
  rintro _ σ3 ⟨⟨t3, l3, rfl, hl3, ho3⟩, h3, g3⟩
  have Dl := g3.next
  have tq := (g3.get σ.next (by omega) (by omega)).trans kU
  have rU := (g3.get (σ.next + 1) (by omega) (by omega)).trans sF
  have gW3 := (g3.get (σ.next + 2) (by omega) (by omega)).trans gW2
  have hG2 : Qi σ2 (σ.next + 3) 42 6 (.slice va vl vc) vs ps := hG.imp id (fun h => h.gr g2 (by omega))
  obtain ⟨v', σ', hap, hG', Rl, hKz⟩ := Rw PU aaf rfl (by decide) (N := σ.next + 3) (r := r) (by omega) (by omega) hG2 g3 ⟨t3, l3, rfl, hl3, ho3⟩ (by omega) (by omega)
  have uG := (hKz σ.next (by omega) (by rw [tq])).trans tq
  have wL := (hKz (σ.next + 1) (by omega) (by rw [rU])).trans rU
  have gW4 := (Rl.get (σ.next + 2) (by omega) (by omega)).trans gW3
  have agk : ∀ X : fZ, (σ3.push X).get (σ.next + 1) = _ := fun X => (aC (by omega)).trans rU
  obtain ⟨va', vl', vc', rfl⟩ : ∃ a l c, v' = .slice a l c := by obtain ⟨B, c, _, _, e, _⟩ := hG'; exact ⟨_, _, _, e⟩
  refine YE b0 b2 b3 hl3 ho3 hap wL ?_
  refine oW [(1, 0), (1, 4), (1, 5)] ?_ ?_
  ·(repeat (refine aO (bg rfl rfl rfl rfl rfl (D8 b0 b2 b3 sF rU agk)) ?_)); exact bn
  have hadd : aT .add (.int .i64 (j : Int)) (.int .i64 1) = some (.int .i64 ((j + 1 : Nat) : Int)) := by rw [aH (by omega) (by omega)]; rfl
  refine nH b0 b2 b3 b7 b8 b9 hadd ?_
  refine ⟨3 - (j + 1), by omega, j + 1, (K.or (dA ww s1).2).2, ps ++ [(K.or (dA ww s1).2).1], vs ++ [.agg ⟨l3⟩], .slice va' vl' vc', by omega, rfl, by simp [hvl], (dD), (aU b0), (aU b2), (aU b3), (aU b7), (aU b8), (dD), (h3.ow Rl (by omega) (by omega)).ow ((Ow.refl (σ.next + 1) σ').set (Nat.le_refl _) _) (by omega) (by omega), ?_, ?_, ?_, ?_, ?_, ⟨_, _, _, rfl⟩, .inr ?_, ?_⟩
  ·exact ((g1.trans g2).trans g3).ow ((Rl.mono (by omega)).set (by omega) _)
  ·have := Rl.next
   rw [au]
   omega
  ·exact (bG (by omega)).trans uG
  ·exact bF
  ·exact (bG (by omega)).trans gW4
  ·exact hG'.gr (r := σ.next + 1) ((Gr.refl _ _).set (.inr rfl) _) (by omega)
  ·exact hloop
 ·have c1 : decide ((j : Int) < 3) = false := by simp; omega
  refine nH b0 b2 b3 b7 b8 b9 c1 ?_
  refine iH ?_; simp only [Then, Out, iy, reduceIte, Nat.reduceEqDiff]
  refine nH b0 b2 b3 b7 b8 b9 c1 ?_
  refine aj (Ud b0 b2 b3 b7 b8 b9 c1) ?_
  refine C.mono (jX h1 EO) ?_
  rintro _ σ2 ⟨h2, g2⟩
  have nM := g2.next
  have kU := (g2.get σ.next (by omega) (by omega)).trans gN
  have sF := (g2.get (σ.next + 1) (by omega) (by omega)).trans gM
  refine jy b0 b2 b3 kU sF ?_
  refine D7 b2 kU ?_
  have hj3 : j = 3 := by omega
  subst hj3
  have hl : BP K [lX, lY, jP] [] s = (ps, s1) := hloop.symm
  rw [Ru, hl]
  have hG2 : Qi σ2 (σ.next + 3) 42 6 (.slice va vl vc) vs ps := hG.imp id (fun h => h.gr g2 (by omega))
  have hrd : Rd σ2 (fun k => σ.next + 3 ≤ k) (sl 6 ps) (.slice va vl vc) := by
   rcases hG2 with ⟨rfl, rfl, e⟩ | hG2
   ·rw [e]; exact aW _ _ _
   ·exact hG2.rd (by decide)
  exact aX ((Ow.refl _ _).set (Nat.le_refl _) _) (g1.trans g2) h2 hlr hlb (iM ((hrd.ks ((Ks.refl σ2).set (.inr (by rw [kU])) _)).keep (fun _ _ _ _ => rfl) (Nat.le_refl _) (fun k hk _ => by have := hk; omega)) (aW _ _ _))
end
section
variable {r b : Nat} {T : List Tk}
theorem kind_eq {α : Type} (k : Int) (f g : SM α) (s : Sy) : (aV k >>= fun b => if b = true then f else g) s = if (aV k s).1 = true then f (aV k s).2 else g (aV k s).2 := by
 show (if (aV k s).1 = true then f else g) (aV k s).2 = _
 split <;> rfl
theorem abj (hW : uo) {K : gG} {d : Int} (hK : JO K r b T d) : Reads (fun _ => True) 6 r b T d 211 [.pointer (some ⟨r, 0, none⟩)] (Hf K) := by
 intro σ s he h
 have hlr := h.lr
 have hlb := h.lb
 obtain ⟨i, h1, hl1, ht1⟩ := h.head
 have hr := h1.get
 have hb := h1.toks
 have hi := h1.li
 have e0 : bU Tryz.prog 100 ⟨b, 4 * i, none⟩ (T.length - i) 0 = some (.pointer (some ⟨b, 4 * i, none⟩)) := EW ug (by omega)
 have hd := BL ht1
 clear h1 hl1 ht1
 refine pK Tryz.func211 Tryz.ntmps211 Tryz.results211 fun A hz a0 => ?_
 repeat (first | apply C9 | apply zD | ((first | apply zC | (refine' zG rfl rfl ?_ ?_; rotate_left) | apply FZ); (focus simp (disch := first | decide | (try simp only [zz, hz]) <;> omega | fail) only [go_sem, hz, a0, hr, hb, hd, e0, sZ] <;> rfl); with_reducible first | apply zF | apply g_1 | apply g_2 | apply jO | apply lV | apply c_1 | apply c_2) | apply Dc | apply b_k | apply Bj | apply yD)
 have k0 : ∀ B1 B2 B3 : fZ, Kp σ (((σ.push B1).push B2).set (σ.next + 1) B3) := fun _ _ _ => ((((Kp.refl σ).push _).push _).set (by first | omega | (simp only [ah, au]; first | done | omega)) _)
 have Vo : ∀ B1 B2 B3 : fZ, (((σ.push B1).push B2).set (σ.next + 1) B3).get σ.next = B1 := fun _ _ _ => by rw [bG (by omega), aC (by first | omega | (simp only [ah, au]; first | done | omega)), aA]
 have YR : ∀ B1 B2 B3 : fZ, (((σ.push B1).push B2).set (σ.next + 1) B3).get (σ.next + 1) = B3 := fun _ _ _ => bF
 unfold Hf
 rw [SM.bind_run]
 simp only [wB]
 refine aj (aU a0) ?_
 refine C.mono (vS (h.kp (k0 _ _ _)) (k := 2) (by decide)) ?_
 rintro _ σ1 ⟨rfl, h1, g1⟩
 have wI := g1.next
 simp only [ah, au] at wI
 have nN := (g1.get σ.next (by first | omega | (simp only [ah, au]; first | done | omega)) (by omega)).trans (Vo _ _ _)
 have E8 := (g1.get (σ.next + 1) (by first | omega | (simp only [ah, au]; first | done | omega)) (by omega)).trans (YR _ _ _)
 replace g1 := ((k0 _ _ _).gr r).trans g1
 rw [kind_eq]
 generalize (aV 2 s).2 = s1 at h1 ⊢
 cases c1 : (aV 2 s).1 with
 | true =>
  refine dS a0 nN E8 ?_
  refine fQ nN ?_
  exact aX ((Ow.refl _ _).set (Nat.le_refl _) _) g1 h1 hlr hlb (iM (aW _ _ _) (aW _ _ _))
 | false =>
 refine jR a0 ?_
 refine aj (aU a0) ?_
 refine C.mono (vS h1 (k := 3) (by decide)) ?_
 rintro _ σ2 ⟨rfl, h2, g2⟩
 have nM := g2.next
 have kU := (g2.get σ.next (by omega) (by omega)).trans nN
 have sF := (g2.get (σ.next + 1) (by omega) (by omega)).trans E8
 replace g2 := g1.trans g2
 rw [if_neg (by simp), kind_eq]
 generalize (aV 3 s1).2 = s2 at h2 ⊢
 cases c2 : (aV 3 s1).1 with
 | true =>
  refine dS a0 kU sF ?_
  refine fQ kU ?_
  exact aX ((Ow.refl _ _).set (Nat.le_refl _) _) g2 h2 hlr hlb (iM (aW _ _ _) (aW _ _ _))
 | false =>
 have lt : σ.next < σ2.next := by omega
 clear g1 nN E8 h1 wI sF
 refine jR a0 ?_
 refine aj (aU a0) ?_
 refine C.mono (gV h2 kZ) ?_
 rintro _ σ3 ⟨rfl, h3, g3⟩
 have nx := g3.next
 have tq := (g3.get σ.next (by omega) (by omega)).trans kU
 replace lt : σ.next < σ3.next := by omega
 replace g3 := g2.trans g3
 rw [if_neg (by simp), jK]
 generalize (aB kZ s2).2 = s3 at h3 ⊢
 cases cc : (aB kZ s2).1 with
 | true =>
  refine gQ a0 tq ?_
  refine fQ tq ?_
  exact aX ((Ow.refl _ _).set (Nat.le_refl _) _) g3 h3 hlr hlb (iM (aW _ _ _) (aW _ _ _))
 | false =>
 refine jR a0 ?_
 refine aj (aU a0) ?_
 refine C.mono (gV h3 rH) ?_
 rintro _ σ4 ⟨rfl, h4, g4⟩
 have nx := g4.next
 have uG := (g4.get σ.next (by omega) (by omega)).trans tq
 replace lt : σ.next < σ4.next := by omega
 replace g4 := g3.trans g4
 rw [if_neg (by simp), jK]
 generalize (aB rH s3).2 = s4 at h4 ⊢
 cases cc : (aB rH s3).1 with
 | true =>
  refine gQ a0 uG ?_
  refine fQ uG ?_
  exact aX ((Ow.refl _ _).set (Nat.le_refl _) _) g4 h4 hlr hlb (iM (aW _ _ _) (aW _ _ _))
 | false =>
 refine jR a0 ?_
 refine aj (aU a0) ?_
 refine C.mono (gV h4 nZ) ?_
 rintro _ σ5 ⟨rfl, h5, g5⟩
 have nx := g5.next
 have BQ := (g5.get σ.next (by omega) (by omega)).trans uG
 replace lt : σ.next < σ5.next := by omega
 replace g5 := g4.trans g5
 rw [if_neg (by simp), jK]
 generalize (aB nZ s4).2 = s5 at h5 ⊢
 cases cc : (aB nZ s4).1 with
 | true =>
  refine gQ a0 BQ ?_
  refine fQ BQ ?_
  exact aX ((Ow.refl _ _).set (Nat.le_refl _) _) g5 h5 hlr hlb (iM (aW _ _ _) (aW _ _ _))
 | false =>
 refine jR a0 ?_
 refine aj (aU a0) ?_
 refine C.mono (gV h5 pJ) ?_
 rintro _ σ6 ⟨rfl, h6, g6⟩
 have nx := g6.next
 have Fa := (g6.get σ.next (by omega) (by omega)).trans BQ
 replace lt : σ.next < σ6.next := by omega
 replace g6 := g5.trans g6
 rw [if_neg (by simp), jK]
 generalize (aB pJ s5).2 = s6 at h6 ⊢
 cases cc : (aB pJ s5).1 with
 | true =>
  refine gQ a0 Fa ?_
  refine aj (aU a0) ?_
  refine C.mono (zi hW h6) ?_
  rintro _ σ7 ⟨rfl, h7, g7⟩
  have Nb := (g7.get σ.next (by omega) (by omega)).trans Fa
  refine gQ a0 Nb ?_
  refine fQ Nb ?_
  exact aX ((Ow.refl _ _).set (Nat.le_refl _) _) (g6.trans g7) h7 hlr hlb (iM (aW _ _ _) (aW _ _ _))
 | false =>
 refine jR a0 ?_
 refine aj (aU a0) ?_
 refine C.mono (gV h6 vK) ?_
 rintro _ σ7 ⟨rfl, h7, g7⟩
 have nx := g7.next
 have Nb := (g7.get σ.next (by omega) (by omega)).trans Fa
 replace lt : σ.next < σ7.next := by omega
 replace g7 := g6.trans g7
 rw [if_neg (by simp), jK]
 generalize (aB vK s6).2 = s7 at h7 ⊢
 cases cc : (aB vK s6).1 with
 | true =>
  refine gQ a0 Nb ?_
  refine aj (aU a0) ?_
  refine C.mono (Vm hK _ _ trivial h7) ?_
  rintro _ τ ⟨⟨t2, l, rfl, hl, ho⟩, h2, g2⟩
  have nM := g2.next
  have gN := (g2.get σ.next (by omega) (by omega)).trans Nb
  refine dV a0 hl ho gN ?_
  refine fQ hl ?_
  exact aX ((Ow.refl _ _).set (Nat.le_refl _) _) (g7.trans g2) h2 hlr hlb ((TE.ks ⟨t2, l, rfl, hl, ho⟩ ((Ks.refl τ).set (.inr (by rw [gN])) _)).lo (fun k hk => by have := hk; omega))
 | false =>
 refine jR a0 ?_
 refine aj (aU a0) ?_
 refine C.mono (gV h7 og) ?_
 rintro _ σ8 ⟨rfl, h8, g8⟩
 have nx := g8.next
 have Vp := (g8.get σ.next (by omega) (by omega)).trans Nb
 replace lt : σ.next < σ8.next := by omega
 replace g8 := g7.trans g8
 rw [if_neg (by simp), jK]
 generalize (aB og s7).2 = s8 at h8 ⊢
 cases cc : (aB og s7).1 with
 | true =>
  refine gQ a0 Vp ?_
  refine aj (aU a0) ?_
  refine C.mono (E5 (fs := [.pointer (some ⟨r, 0, none⟩)]) (cs := []) cO hK.parts _ _ trivial h8) ?_
  rintro _ τ ⟨⟨t2, l, rfl, hl, ho⟩, h2, g2⟩
  have nM := g2.next
  have gN := (g2.get σ.next (by omega) (by omega)).trans Vp
  refine dV a0 hl ho gN ?_
  refine D7 gN hl ?_
  exact aX (((Ow.refl _ _).push _).set (Nat.le_refl _) _) (g8.trans g2) h2 hlr hlb (iM (aW _ _ _) (jJ (e := 61) (z := 1) (dD) (by decide) (by first | omega | (simp only [ah, au]; first | done | omega)) (by first | omega | (simp only [ah, au]; first | done | omega)) ((TE.ks ⟨t2, l, rfl, hl, ho⟩ (((Ks.refl τ).push _).set (.inr (by rw [gN])) _)).lo (fun k hk => by have := hk; omega))))
 | false =>
 refine jR a0 ?_
 refine aj (aU a0) ?_
 refine C.mono (zh h8 qh) ?_
 rintro _ σ9 ⟨rfl, k9⟩
 have nx9 := k9.next
 have gN9 := (k9.get σ.next (by omega)).trans Vp
 have g9 := g8.kp k9
 rw [if_neg (by simp), tu]
 have h9 := h8.kp k9
 cases c9 : eF qh s8 with
 | true =>
  refine jR a0 ?_
  refine aj (aU a0) ?_
  refine C.mono (abg (fs := [.pointer (some ⟨r, 0, none⟩)]) (cs := []) cO (Lm hK) _ _ trivial h9) ?_
  rintro _ τ ⟨⟨t2, l, rfl, hl, ho⟩, h2, g2⟩
  have nM := g2.next
  have gN := (g2.get σ.next (by omega) (by omega)).trans gN9
  refine dV a0 hl ho gN ?_
  refine fQ hl ?_
  exact aX ((Ow.refl _ _).set (Nat.le_refl _) _) (g9.trans g2) h2 hlr hlb ((TE.ks ⟨t2, l, rfl, hl, ho⟩ ((Ks.refl τ).set (.inr (by rw [gN])) _)).lo (fun k hk => by have := hk; omega))
 | false =>
  refine jR a0 ?_
  refine aj (aU a0) ?_
  refine C.mono (YQ hW hK _ _ trivial h9) ?_
  rintro _ τ ⟨⟨t2, l, rfl, hl, ho⟩, h2, g2⟩
  have nM := g2.next
  have gN := (g2.get σ.next (by omega) (by omega)).trans gN9
  refine dV a0 hl ho gN ?_
  refine fQ hl ?_
  exact aX ((Ow.refl _ _).set (Nat.le_refl _) _) (g9.trans g2) h2 hlr hlb ((TE.ks ⟨t2, l, rfl, hl, ho⟩ ((Ks.refl τ).set (.inr (by rw [gN])) _)).lo (fun k hk => by have := hk; omega))
end
end Go.Proofs.YthogkmcahnkkoaaGreatDoor
