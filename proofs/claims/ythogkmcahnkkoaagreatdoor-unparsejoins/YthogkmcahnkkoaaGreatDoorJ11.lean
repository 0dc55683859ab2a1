/- The program's reader: sources of rows. The program's reader: joins of sources. The program's reader: a part of a query. The program's reader: all levels. -/
import Derived.Test.YthogkmcahnkkoaaGreatDoorJ10
namespace Go.Proofs.YthogkmcahnkkoaaGreatDoor
open Go.RowKit
set_option maxRecDepth 10000
set_option linter.unusedSimpArgs false
set_option linter.unusedVariables false
section
variable {r b : Nat} {T : List Tk}
theorem ada (K : gG) (s : Sy) (c : eF qh s = true) : BG K s = (DZ 2 false eB (bZ (dA mM (bH K.parts s).2).2).1 [(bH K.parts s).1] [] [], (bZ (dA mM (bH K.parts s).2).2).2) := by
 unfold BG
 rw [tu, if_pos c]
 rfl
theorem adb (K : gG) (s : Sy) (c : eF qh s = false) : BG K s = (DZ 1 (aB fO (bZ s).2).1 (bZ s).1 (if (aB mM (aB fO (bZ s).2).2).1 = true then (bZ (aB mM (aB fO (bZ s).2).2).2).1 else (bZ s).1) [] [] [], if (aB mM (aB fO (bZ s).2).2).1 = true then (bZ (aB mM (aB fO (bZ s).2).2).2).2 else (aB mM (aB fO (bZ s).2).2).2) := by
 unfold BG
 rw [tu, if_neg (by simp [c])]
 show (aB mM >>= fun b => if b = true then _ else _) (aB fO (bZ s).2).2 = _
 rw [jK]
 split <;> rfl
theorem Vw (hW : uo) {K : gG} {d : Int} (hK : JO K r b T d) : Reads (fun _ => True) 7 r b T d 229 [.pointer (some ⟨r, 0, none⟩)] (BG K) := by
 intro σ s he h
 have hlr := h.lr
 have hlb := h.lb
 refine pK Tryz.func229 Tryz.ntmps229 Tryz.results229 fun A hz a0 => ?_
 refine jR a0 ?_
 refine aj (aU a0) ?_
 refine C.mono (zh (h.kp ((Kp.refl σ).push _)) qh) ?_
 rintro _ σ1 ⟨rfl, k1⟩
 have wI := k1.next
 simp only [ah] at wI
 have nN := (k1.get σ.next (by first | omega | (simp only [ah, au]; first | done | omega))).trans aA
 have h1 := (h.kp ((Kp.refl σ).push _)).kp k1
 replace k1 := (((Kp.refl σ).push _).trans k1).gr r
 cases c : eF qh s with
 | true =>
  rw [ada K s c]
  refine jR a0 ?_
  refine aj (aU a0) ?_
  refine C.mono (E5 (fs := [.pointer (some ⟨r, 0, none⟩)]) (cs := []) cO hK.parts _ _ trivial h1) ?_
  rintro _ σ2 ⟨⟨t2, l2, rfl, hl2, ho2⟩, h2, g2⟩
  have nM := g2.next
  have kU := (g2.get σ.next (by omega) (by omega)).trans nN
  replace g2 := k1.trans g2
  have t2 : TE 10 σ2 (fun k => σ1.next ≤ k) (.agg ⟨l2⟩) (bH K.parts s).1 := ⟨t2, l2, rfl, hl2, ho2⟩
  refine dS a0 hl2 ho2 ?_
  refine aj (lF a0 hl2 ho2) ?_
  have w3 : ∀ B1 B2 : fZ, Ow σ.next σ2 ((σ2.push B1).set σ2.next B2) := fun _ _ => (((Ow.refl σ.next σ2).push _).set (by omega) _)
  have e3 : ∀ B1 B2 : fZ, Ks σ2 ((σ2.push B1).set σ2.next B2) := fun _ _ => (((Ks.refl σ2).push _).set (.inl (Nat.le_refl _)) _)
  refine C.mono (jX (h2.ow (w3 _ _) hlr hlb) mM) ?_
  rintro _ σ3 ⟨h3, g3⟩
  have Dl := g3.next
  simp only [ah, au] at Dl
  have tq := (g3.get σ.next (by first | omega | (simp only [ah, au]; first | done | omega)) (by omega)).trans ((bG (by omega)).trans ((aC (by omega)).trans kU))
  have rU := (g3.get σ2.next (by first | omega | (simp only [ah, au]; first | done | omega)) (by omega)).trans bF
  have t3 := (t2.ks (e3 _ _)).ks (g3.ks (h2.ow (w3 _ _) hlr hlb).ez)
  replace g3 := (g2.ow (w3 _ _)).trans g3
  refine jR a0 ?_
  refine bY mixed (by kernel_rfl) (qj (i := 3) (d := 17) (by kernel_rfl) rfl rfl (by simp only [rD, hz]; decide)) ?_
  refine Ub a0 rU hl2 ?_
  refine bD (aU a0) ?_
  refine C.mono (zi hW h3) ?_
  rintro _ σ4 ⟨rfl, h4, g4⟩
  have Gt := g4.next
  have uG := (g4.get σ.next (by omega) (by omega)).trans tq
  have wL := (g4.get σ2.next (by omega) (by omega)).trans rU
  have t4 := t3.ks (g4.ks h3.ez)
  replace g4 := g3.trans g4
  have p1 : ∀ B1 : fZ, (σ4.push B1).get σ2.next = _ := fun _ => (aC (by omega)).trans wL
  have q1 : ∀ B1 : fZ, (σ4.push B1).get σ.next = _ := fun _ => (aC (by omega)).trans uG
  refine gT6 a0 wL hl2 ho2 p1 q1 ?_
  refine oW [(2, 0), (2, 2), (2, 4)] ?_ ?_
  ·(repeat (refine aO (bg rfl rfl rfl rfl rfl (NY a0 rU wL p1 hl2)) ?_)); exact bn
  refine D7 q1 hl2 ?_
  have e4 : ∀ B1 B2 : fZ, Ks σ4 ((σ4.push B1).set σ.next B2) := fun _ _ => ((Ks.refl σ4).push _).set (.inr (by rw [uG])) _
  exact aX (((Ow.refl _ _).push _).set (Nat.le_refl _) _) g4 h4 hlr hlb (BK (jJ (e := 61) (z := 1) (dD) (by decide) (by first | omega | (simp only [ah, au]; first | done | omega)) (by first | omega | (simp only [ah, au]; first | done | omega)) ((t4.ks (e4 _ _)).lo (fun k hk => by have := hk; omega))) (aW _ _ _) (aW _ _ _))
 | false =>
  rw [adb K s c]
  refine jR a0 ?_
  refine aj (aU a0) ?_
  refine C.mono (zi hW h1) ?_
  rintro _ σ2 ⟨rfl, h2, g2⟩
  have nM := g2.next
  have kU := (g2.get σ.next (by omega) (by omega)).trans nN
  replace g2 := k1.trans g2
  refine jR a0 ?_
  refine aj (aU a0) ?_
  refine C.mono (gV h2 fO) ?_
  rintro _ σ3 ⟨rfl, h3, g3⟩
  have Dl := g3.next
  have tq := (g3.get σ.next (by omega) (by omega)).trans kU
  replace g3 := g2.trans g3
  refine jR a0 ?_
  refine aj (aU a0) ?_
  have w3 : ∀ B1 B2 : fZ, Ow σ.next σ3 ((σ3.push B1).set σ3.next B2) := fun _ _ => (((Ow.refl σ.next σ3).push _).set (by omega) _)
  refine C.mono (gV (h3.ow (w3 _ _) hlr hlb) mM) ?_
  rintro _ σ4 ⟨rfl, h4, g4⟩
  have Gt := g4.next
  simp only [ah, au] at Gt
  have uG := (g4.get σ.next (by first | omega | (simp only [ah, au]; first | done | omega)) (by omega)).trans ((bG (by omega)).trans ((aC (by omega)).trans tq))
  have wL := (g4.get σ3.next (by first | omega | (simp only [ah, au]; first | done | omega)) (by omega)).trans bF
  replace g4 := (g3.ow (w3 _ _)).trans g4
  cases c4 : (aB mM (aB fO (bZ s).2).2).1 with
  | true =>
   refine jR a0 ?_
   refine aj (aU a0) ?_
   refine C.mono (zi hW h4) ?_
   rintro _ σ5 ⟨rfl, h5, g5⟩
   have Vt := g5.next
   have BQ := (g5.get σ.next (by omega) (by omega)).trans uG
   have A8 := (g5.get σ3.next (by omega) (by omega)).trans wL
   replace g5 := g4.trans g5
   have Fa : ∀ B1 : fZ, (σ5.set σ3.next B1).get σ.next = _ := fun _ => (bG (by omega)).trans BQ
   refine dS a0 A8 Fa ?_
   refine fQ Fa ?_
   exact aX (((Ow.refl _ _).set (by omega) _).set (Nat.le_refl _) _) g5 h5 hlr hlb (BK (aW _ _ _) (aW _ _ _) (aW _ _ _))
  | false =>
   refine dS a0 wL uG ?_
   refine fQ uG ?_
   exact aX ((Ow.refl _ _).set (Nat.le_refl _) _) g4 h4 hlr hlb (BK (aW _ _ _) (aW _ _ _) (aW _ _ _))
end
section
variable {r b : Nat} {T : List Tk}
def tC (K : gG) (left : Tr) (word : ByteArray) : SM Tr := do
 if word = o8 then do
  dA lZ
  Dj K left 4
 else Dj K left 3
theorem join_eq (K : gG) (left : Tr) (k : Int) (s : Sy) : Dj K left k s = (DZ k false eB eB [] [left, (BG K s).1] [(K.or (dA BD (BG K s).2).2).1], (K.or (dA BD (BG K s).2).2).2) := rfl
theorem Ry {K : gG} {left : Tr} {x : ByteArray} (c : x = o8) (s : Sy) : tC K left x s = Dj K left 4 (dA lZ s).2 := by
 unfold tC
 rw [if_pos c]
 rfl
theorem Rz {K : gG} {left : Tr} {x : ByteArray} (c : ¬ x = o8) (s : Sy) : tC K left x s = Dj K left 3 s := by
 unfold tC
 rw [if_neg c]
theorem RD (hW : uo) {K : gG} {d : Int} (hK : JO K r b T d) (k : Nat) (σ : AW) (s : Sy) (lo : Nat) (v p : Value) (x : ByteArray) (he : σ.get k = ⟨1, 63, 0, [.pointer (some ⟨r, 0, none⟩)]⟩ ∧ k < σ.next ∧ k ≠ r) (h : lu σ r b T d s) (hlo : lo ≤ σ.next) (hv : TE 7 σ (fun k => lo ≤ k) v p) :
  C Tryz.prog 230 ([] ++ [v, .string x] ++ [.pointer (some ⟨k, 0, none⟩)]) σ fun v' σ' => TE 7 σ' (fun k => lo ≤ k) v' (tC K p x s).1 ∧ lu σ' r b T d (tC K p x s).2 ∧ Gr r σ σ' := by
 obtain ⟨gk, hk, hkr⟩ := he
 have hlr := h.lr
 have hlb := h.lb
 obtain ⟨t1, l, rfl, hl, ho⟩ := hv
 have t1 : TE 7 σ (fun k => lo ≤ k) (.agg ⟨l⟩) p := ⟨t1, l, rfl, hl, ho⟩
 refine Ld Tryz.func230 Tryz.ntmps230 Tryz.results230 fun A hz a0 a1 a2 => ?_
 have w1 : ∀ B1 B2 B3 B4 : fZ, Ow σ.next σ ((((σ.push B1).push B2).push B3).set (σ.next + 1 + 1) B4) := fun _ _ _ _ => ((((Ow.refl σ.next σ).push _).push _).push _).set (by omega) _
 have e1 : ∀ B1 B2 B3 B4 : fZ, Ks σ ((((σ.push B1).push B2).push B3).set (σ.next + 1 + 1) B4) := fun _ _ _ _ => ((((Ks.refl σ).push _).push _).push _).set (.inl (by omega)) _
 have n1 : ∀ B1 B2 B3 B4 : fZ, ((((σ.push B1).push B2).push B3).set (σ.next + 1 + 1) B4).get σ.next = B1 := fun _ _ _ _ => by rw [bG (by omega), aC (by first | omega | (simp only [ah, au]; first | done | omega)), aC (by first | omega | (simp only [ah, au]; first | done | omega)), aA]
 have m1 : ∀ B1 B2 B3 B4 : fZ, ((((σ.push B1).push B2).push B3).set (σ.next + 1 + 1) B4).get (σ.next + 1) = B2 := fun _ _ _ _ => by rw [bG (by omega), aC (by first | omega | (simp only [ah, au]; first | done | omega))]; exact aA
 have q1 : ∀ B1 B2 B3 B4 : fZ, ((((σ.push B1).push B2).push B3).set (σ.next + 1 + 1) B4).get (σ.next + 1 + 1) = B4 := fun _ _ _ _ => bF
 have k1 : ∀ B1 B2 B3 B4 : fZ, ((((σ.push B1).push B2).push B3).set (σ.next + 1 + 1) B4).get k = _ := fun _ _ _ _ => ((w1 _ _ _ _).get k hk hk).trans gk
 by_cases c : x = o8
 ·have c1 : decide (x = ⟨#[108, 101, 102, 116]⟩) = true := decide_eq_true c
  rw [Ry c, join_eq]
  refine nH a0 a1 a2 c1 k1 hl ho ?_
  refine aj (qx a0 a1 a2 k1) ?_
  refine C.mono (jX (h.ow (w1 _ _ _ _) hlr hlb) lZ) ?_
  rintro _ σ1 ⟨h1, g1⟩
  have wI := g1.next
  simp only [ah, au] at wI
  have nN := (g1.get σ.next (by first | omega | (simp only [ah, au]; first | done | omega)) (by omega)).trans (n1 _ _ _ _)
  have E8 := (g1.get (σ.next + 1) (by first | omega | (simp only [ah, au]; first | done | omega)) (by omega)).trans (m1 _ _ _ _)
  have gQ1 := (g1.get (σ.next + 1 + 1) (by first | omega | (simp only [ah, au]; first | done | omega)) (by omega)).trans (q1 _ _ _ _)
  have gK1 := (g1.get k (by first | omega | (simp only [ah, au]; first | done | omega)) hkr).trans (k1 _ _ _ _)
  have e0 := (e1 _ _ _ _).trans (g1.ks (h.ow (w1 _ _ _ _) hlr hlb).ez)
  replace g1 := ((Gr.refl r σ).ow (w1 _ _ _ _)).trans g1
  have wb : ∀ B : fZ, Ow σ.next σ1 (σ1.set (σ.next + 1 + 1) B) := fun _ => (Ow.refl σ.next σ1).set (by omega) _
  have eb : ∀ B : fZ, Ks σ1 (σ1.set (σ.next + 1 + 1) B) := fun _ => (Ks.refl σ1).set (.inr (by rw [gQ1])) _
  have nb : ∀ B : fZ, (σ1.set (σ.next + 1 + 1) B).get σ.next = _ := fun _ => (bG (by omega)).trans nN
  have mb : ∀ B : fZ, (σ1.set (σ.next + 1 + 1) B).get (σ.next + 1) = _ := fun _ => (bG (by omega)).trans E8
  have kb : ∀ B : fZ, (σ1.set (σ.next + 1 + 1) B).get k = _ := fun _ => (bG (by omega)).trans gK1
  refine dV a0 a1 a2 gQ1 ?_
  refine bY mixed (by kernel_rfl) (by kernel_rfl) ?_
  refine XM a0 a1 a2 nN E8 gQ1 gK1 (cJ nb (cJ mb (cJ kb (cJ hl ho)))) ?_
  refine bD (lF a0 a1 a2) ?_
  refine C.mono (Vw hW hK _ _ trivial (h1.ow (wb _) hlr hlb)) ?_
  rintro _ σ2 ⟨⟨t2, l2, rfl, hl2, ho2⟩, h2, g2⟩
  have t2 : TE 7 σ2 _ (.agg ⟨l2⟩) _ := ⟨t2, l2, rfl, hl2, ho2⟩
  have nM := g2.next
  simp only [ah, au] at nM
  have kU := (g2.get σ.next (by first | omega | (simp only [ah, au]; first | done | omega)) (by omega)).trans (nb _)
  have sF := (g2.get (σ.next + 1) (by first | omega | (simp only [ah, au]; first | done | omega)) (by omega)).trans (mb _)
  have gQ2 := (g2.get (σ.next + 1 + 1) (by first | omega | (simp only [ah, au]; first | done | omega)) (by omega)).trans bF
  have XQ := (g2.get k (by first | omega | (simp only [ah, au]; first | done | omega)) hkr).trans (kb _)
  have t2a := ((t1.ks e0).ks (eb _)).ks (g2.ks (h1.ow (wb _) hlr hlb).ez)
  replace g2 := (g1.ow (wb _)).trans g2
  have p2 : ∀ B1 : fZ, (σ2.push B1).get (σ.next + 1 + 1) = _ := fun _ => (aC (by omega)).trans gQ2
  refine XM a0 a1 a2 kU XQ gQ2 p2 (cJ hl (cJ ho (cJ hl2 ho2))) ?_
  refine oW [(0, 0), (0, 3), (1, 0)] ?_ ?_
  ·(repeat (refine aO (bg rfl rfl rfl rfl rfl (kC a0 a1 a2 nN E8 gQ1 gK1 (cJ nb (cJ mb (cJ kb (cJ kU (cJ XQ (cJ hl ho)))))))) ?_)); exact bn
  have w3 : ∀ B1 B2 : fZ, Ow σ.next σ2 ((σ2.push B1).set (σ.next + 1 + 1) B2) := fun _ _ => ((Ow.refl σ.next σ2).push _).set (by omega) _
  have e3 : ∀ B1 B2 : fZ, Ks σ2 ((σ2.push B1).set (σ.next + 1 + 1) B2) := fun _ _ => ((Ks.refl σ2).push _).set (.inr (by rw [gQ2])) _
  have gK3 : ∀ B1 B2 : fZ, ((σ2.push B1).set (σ.next + 1 + 1) B2).get k = _ := fun _ _ => ((w3 _ _).get k (by omega) hk).trans XQ
  refine dV a0 a1 a2 gK3 ?_
  refine aj (qx a0 a1 a2 gK3) ?_
  refine C.mono (jX (h2.ow (w3 _ _) hlr hlb) BD) ?_
  rintro _ σ4 ⟨h4, g4⟩
  have Gt := g4.next
  simp only [ah, au] at Gt
  have wL := (g4.get (σ.next + 1) (by first | omega | (simp only [ah, au]; first | done | omega)) (by omega)).trans ((bG (by omega)).trans ((aC (by omega)).trans sF))
  have gQ4 := (g4.get (σ.next + 1 + 1) (by first | omega | (simp only [ah, au]; first | done | omega)) (by omega)).trans bF
  have gK4 := (g4.get k (by first | omega | (simp only [ah, au]; first | done | omega)) hkr).trans (gK3 _ _)
  have e4 := (e3 _ _).trans (g4.ks (h2.ow (w3 _ _) hlr hlb).ez)
  have gL4 := (g4.get σ2.next (by first | omega | (simp only [ah, au]; first | done | omega)) (by omega)).trans ((bG (by omega)).trans aA)
  have r4 := D6 (c := 4) gL4 (by decide) (by omega) (show (fun k => lo ≤ k) σ2.next by omega) (t2a.ks e4) ((t2.ks e4).lo (fun j hj => by have := hj; simp only [ah, au] at this; omega))
  replace g4 := (g2.ow (w3 _ _)).trans g4
  refine dV a0 a1 a2 gK4 ?_
  refine aj (qx a0 a1 a2 gK4) ?_
  refine C.mono (hK.or _ _ trivial h4) ?_
  rintro _ σ5 ⟨⟨t5, l5, rfl, hl5, Ue⟩, h5, g5⟩
  have t5 : TE 6 σ5 _ (.agg ⟨l5⟩) _ := ⟨t5, l5, rfl, hl5, Ue⟩
  have Vt := g5.next
  have A8 := (g5.get (σ.next + 1) (by omega) (by omega)).trans wL
  have gQ5 := (g5.get (σ.next + 1 + 1) (by omega) (by omega)).trans gQ4
  have r5 := r4.ks (g5.ks h4.ez)
  replace g5 := g4.trans g5
  have p5 : ∀ B1 : fZ, (σ5.push B1).get (σ.next + 1 + 1) = _ := fun _ => (aC (by omega)).trans gQ5
  have p6 : ∀ B1 B2 : fZ, ((σ5.push B1).set (σ.next + 1 + 1) B2).get (σ.next + 1) = _ := fun _ _ => (bG (by omega)).trans ((aC (by omega)).trans A8)
  refine nH a0 a1 a2 p5 p6 hl5 Ue ?_
  refine D7 p5 p6 ?_
  have w6 : ∀ B1 B2 B3 : fZ, Ow σ.next σ5 (((σ5.push B1).set (σ.next + 1 + 1) B2).set (σ.next + 1) B3) := fun _ _ _ => (((Ow.refl σ.next σ5).push _).set (by omega) _).set (by omega) _
  have e6 : ∀ B1 B2 B3 : fZ, Ks σ5 (((σ5.push B1).set (σ.next + 1 + 1) B2).set (σ.next + 1) B3) := fun _ _ _ => (((Ks.refl σ5).push _).set (.inr (by rw [gQ5])) _).set (.inr (by rw [A8])) _
  exact ⟨BK (aW _ _ _) (r5.ks (e6 _ _ _)) (jJ (e := 42) (z := 1) (dD) (by decide) (by first | omega | (simp only [ah, au]; first | done | omega)) (by first | omega | (simp only [ah, au]; first | done | omega)) ((t5.ks (e6 _ _ _)).lo (fun j hj => by have := hj; omega))), h5.ow (w6 _ _ _) hlr hlb, g5.ow (w6 _ _ _)⟩
 ·have c1 : decide (x = ⟨#[108, 101, 102, 116]⟩) = false := decide_eq_false c
  rw [Rz c, join_eq]
  refine kR a0 a1 a2 c1 hl ho ?_
  refine bY mixed (by kernel_rfl) (by kernel_rfl) ?_
  refine XM a0 a1 a2 n1 m1 q1 k1 (cJ hl ho) ?_
  refine bD (lF a0 a1 a2) ?_
  refine C.mono (Vw hW hK _ _ trivial (h.ow (w1 _ _ _ _) hlr hlb)) ?_
  rintro _ σ2 ⟨⟨t2, l2, rfl, hl2, ho2⟩, h2, g2⟩
  have t2 : TE 7 σ2 _ (.agg ⟨l2⟩) _ := ⟨t2, l2, rfl, hl2, ho2⟩
  have nM := g2.next
  simp only [ah, au] at nM
  have kU := (g2.get σ.next (by first | omega | (simp only [ah, au]; first | done | omega)) (by omega)).trans (n1 _ _ _ _)
  have sF := (g2.get (σ.next + 1) (by first | omega | (simp only [ah, au]; first | done | omega)) (by omega)).trans (m1 _ _ _ _)
  have gQ2 := (g2.get (σ.next + 1 + 1) (by first | omega | (simp only [ah, au]; first | done | omega)) (by omega)).trans (q1 _ _ _ _)
  have XQ := (g2.get k (by first | omega | (simp only [ah, au]; first | done | omega)) hkr).trans (k1 _ _ _ _)
  have t2a := (t1.ks (e1 _ _ _ _)).ks (g2.ks (h.ow (w1 _ _ _ _) hlr hlb).ez)
  replace g2 := ((Gr.refl r σ).ow (w1 _ _ _ _)).trans g2
  have p2 : ∀ B1 : fZ, (σ2.push B1).get (σ.next + 1 + 1) = _ := fun _ => (aC (by omega)).trans gQ2
  refine XM a0 a1 a2 kU XQ gQ2 p2 (cJ hl (cJ ho (cJ hl2 ho2))) ?_
  refine oW [(0, 0), (0, 3), (1, 0)] ?_ ?_
  ·(repeat (refine aO (bg rfl rfl rfl rfl rfl (kC a0 a1 a2 n1 m1 q1 k1 (cJ kU (cJ XQ (cJ hl ho))))) ?_)); exact bn
  have w3 : ∀ B1 B2 : fZ, Ow σ.next σ2 ((σ2.push B1).set (σ.next + 1 + 1) B2) := fun _ _ => ((Ow.refl σ.next σ2).push _).set (by omega) _
  have e3 : ∀ B1 B2 : fZ, Ks σ2 ((σ2.push B1).set (σ.next + 1 + 1) B2) := fun _ _ => ((Ks.refl σ2).push _).set (.inr (by rw [gQ2])) _
  have gK3 : ∀ B1 B2 : fZ, ((σ2.push B1).set (σ.next + 1 + 1) B2).get k = _ := fun _ _ => ((w3 _ _).get k (by omega) hk).trans XQ
  refine dV a0 a1 a2 gK3 ?_
  refine aj (qx a0 a1 a2 gK3) ?_
  refine C.mono (jX (h2.ow (w3 _ _) hlr hlb) BD) ?_
  rintro _ σ4 ⟨h4, g4⟩
  have Gt := g4.next
  simp only [ah, au] at Gt
  have wL := (g4.get (σ.next + 1) (by first | omega | (simp only [ah, au]; first | done | omega)) (by omega)).trans ((bG (by omega)).trans ((aC (by omega)).trans sF))
  have gQ4 := (g4.get (σ.next + 1 + 1) (by first | omega | (simp only [ah, au]; first | done | omega)) (by omega)).trans bF
  have gK4 := (g4.get k (by first | omega | (simp only [ah, au]; first | done | omega)) hkr).trans (gK3 _ _)
  have e4 := (e3 _ _).trans (g4.ks (h2.ow (w3 _ _) hlr hlb).ez)
  have gL4 := (g4.get σ2.next (by first | omega | (simp only [ah, au]; first | done | omega)) (by omega)).trans ((bG (by omega)).trans aA)
  have r4 := D6 (c := 4) gL4 (by decide) (by omega) (show (fun k => lo ≤ k) σ2.next by omega) (t2a.ks e4) ((t2.ks e4).lo (fun j hj => by have := hj; simp only [ah, au] at this; omega))
  replace g4 := (g2.ow (w3 _ _)).trans g4
  refine dV a0 a1 a2 gK4 ?_
  refine aj (qx a0 a1 a2 gK4) ?_
  refine C.mono (hK.or _ _ trivial h4) ?_
  rintro _ σ5 ⟨⟨t5, l5, rfl, hl5, Ue⟩, h5, g5⟩
  have t5 : TE 6 σ5 _ (.agg ⟨l5⟩) _ := ⟨t5, l5, rfl, hl5, Ue⟩
  have Vt := g5.next
  have A8 := (g5.get (σ.next + 1) (by omega) (by omega)).trans wL
  have gQ5 := (g5.get (σ.next + 1 + 1) (by omega) (by omega)).trans gQ4
  have r5 := r4.ks (g5.ks h4.ez)
  replace g5 := g4.trans g5
  have p5 : ∀ B1 : fZ, (σ5.push B1).get (σ.next + 1 + 1) = _ := fun _ => (aC (by omega)).trans gQ5
  have p6 : ∀ B1 B2 : fZ, ((σ5.push B1).set (σ.next + 1 + 1) B2).get (σ.next + 1) = _ := fun _ _ => (bG (by omega)).trans ((aC (by omega)).trans A8)
  refine nH a0 a1 a2 p5 p6 hl5 Ue ?_
  refine D7 p5 p6 ?_
  have w6 : ∀ B1 B2 B3 : fZ, Ow σ.next σ5 (((σ5.push B1).set (σ.next + 1 + 1) B2).set (σ.next + 1) B3) := fun _ _ _ => (((Ow.refl σ.next σ5).push _).set (by omega) _).set (by omega) _
  have e6 : ∀ B1 B2 B3 : fZ, Ks σ5 (((σ5.push B1).set (σ.next + 1 + 1) B2).set (σ.next + 1) B3) := fun _ _ _ => (((Ks.refl σ5).push _).set (.inr (by rw [gQ5])) _).set (.inr (by rw [A8])) _
  exact ⟨BK (aW _ _ _) (r5.ks (e6 _ _ _)) (jJ (e := 42) (z := 1) (dD) (by decide) (by first | omega | (simp only [ah, au]; first | done | omega)) (by first | omega | (simp only [ah, au]; first | done | omega)) ((t5.ks (e6 _ _ _)).lo (fun j hj => by have := hj; omega))), h5.ow (w6 _ _ _) hlr hlb, g5.ow (w6 _ _ _)⟩
theorem Vx (hW : uo) {K : gG} {d : Int} (hK : JO K r b T d) : Reads (fun _ => True) 7 r b T d 215 [.pointer (some ⟨r, 0, none⟩)] (vO K) := by
 intro σ s he h
 have hlr := h.lr
 have hlb := h.lb
 have hsh : ∀ p x, bQ (tC K p x) := fun p x => .ite ((bQ.want _).bind fun _ => Ad hK.sh _ _) (Ad hK.sh _ _)
 have e : vO K s = dL (tC K) [o8, lZ] (BG K s).1 (BG K s).2 := rfl
 rw [e]
 refine pK Tryz.func215 Tryz.ntmps215 Tryz.results215 fun A hz a0 => ?_
 refine jR a0 ?_
 refine bY mixed (by kernel_rfl) (qj (i := 4) (d := 7) (by kernel_rfl) rfl rfl (by simp only [rD, hz]; decide)) ?_
 refine gT1 a0 ?_
 refine bD (aU a0) ?_
 refine C.mono (Vw hW hK _ _ trivial (h.kp (((Kp.refl σ).push _).push _))) ?_
 rintro _ σ2 ⟨⟨t2, l2, rfl, hl2, ho2⟩, h2, g2⟩
 have t2 : TE 7 σ2 _ (.agg ⟨l2⟩) _ := ⟨t2, l2, rfl, hl2, ho2⟩
 have nM := g2.next
 simp only [ah] at nM
 have kU := (g2.get σ.next (by first | omega | (simp only [ah, au]; first | done | omega)) (by omega)).trans ((aC (by first | omega | (simp only [ah, au]; first | done | omega))).trans aA)
 have sF := (g2.get (σ.next + 1) (by first | omega | (simp only [ah, au]; first | done | omega)) (by omega)).trans aA
 have p2 : ∀ B : fZ, (σ2.push B).get σ.next = _ := fun _ => (aC (by omega)).trans kU
 refine Ub a0 kU p2 ?_
 refine bD (aU a0) ?_
 refine C.mono (YJ (fs := []) (cs := [.pointer (some ⟨σ.next, 0, none⟩)]) (E := fun τ => τ.get σ.next = ⟨1, 63, 0, [.pointer (some ⟨r, 0, none⟩)]⟩ ∧ σ.next < τ.next ∧ σ.next ≠ r) (fun τ τ' he g => ⟨(g.get _ he.2.1 he.2.2).trans he.1, Nat.lt_of_lt_of_le he.2.1 g.next, he.2.2⟩) (ws := [o8, lZ]) (Nat.le_of_ble_eq_true rfl) hsh (fun τ s' lo v p x he h hlo hv _ => RD hW hK _ τ s' lo v p x he h hlo hv) ⟨p2 _, by first | omega | (simp only [ah, au]; first | done | omega), by omega⟩ (h2.kp ((Kp.refl σ2).push _)) (lo := σ.next) (by first | omega | (simp only [ah, au]; first | done | omega)) ((t2.ks ((Ks.refl σ2).push _)).lo (fun j hj => by have := hj; simp only [ah] at this; omega)) (e := 9) (z := 1) (dD) (by first | omega | (simp only [ah, au]; first | done | omega)) (by first | omega | (simp only [ah, au]; first | done | omega))) ?_
 rintro _ σ3 ⟨⟨t3, l3, rfl, hl3, ho3⟩, h3, g3⟩
 have Dl := g3.next
 simp only [ah] at Dl
 have tq := (g3.get σ.next (by first | omega | (simp only [ah, au]; first | done | omega)) (by omega)).trans (p2 _)
 have rU := (g3.get (σ.next + 1) (by first | omega | (simp only [ah, au]; first | done | omega)) (by omega)).trans ((aC (by omega)).trans sF)
 refine Uc a0 tq rU hl3 ho3 ?_
 refine oW [(0, 0), (0, 3), (0, 5), (1, 0)] ?_ ?_
 ·(repeat (refine aO (bg rfl rfl rfl rfl rfl (qx a0 kU tq p2)) ?_)); exact bn
 refine D7 rU hl3 ?_
 exact aX ((Ow.refl _ _).set (by omega) _) (g2.unpush.unpush.trans g3.unpush) h3 hlr hlb ((TE.ks ⟨t3, l3, rfl, hl3, ho3⟩ ((Ks.refl σ3).set (.inr (by rw [rU])) _)))
def Ai (K : gG) (left : Tr) (word : ByteArray) : SM Tr := do
 let k ← kJ word
 let y ← rO K
 pure (DL k false (-1) [] [] [] [] [] [] [left, y])
theorem abo (K : gG) (left : Tr) (x : ByteArray) (s : Sy) : Ai K left x s = (DL (kJ x s).1 false (-1) [] [] [] [] [] [] [left, (rO K (kJ x s).2).1], (rO K (kJ x s).2).2) := rfl
theorem Vy {K : gG} {d : Int} (hP : Reads (fun _ => True) 10 r b T d 202 [.pointer (some ⟨r, 0, none⟩)] (rO K)) (k : Nat) (σ : AW) (s : Sy) (lo : Nat) (v p : Value) (x : ByteArray) (he : σ.get k = ⟨1, 63, 0, [.pointer (some ⟨r, 0, none⟩)]⟩ ∧ k < σ.next ∧ k ≠ r) (h : lu σ r b T d s) (hlo : lo ≤ σ.next) (hv : TE 10 σ (fun k => lo ≤ k) v p) :
  C Tryz.prog 203 ([] ++ [v, .string x] ++ [.pointer (some ⟨k, 0, none⟩)]) σ fun v' σ' => TE 10 σ' (fun k => lo ≤ k) v' (Ai K p x s).1 ∧ lu σ' r b T d (Ai K p x s).2 ∧ Gr r σ σ' := by
 obtain ⟨gk, hk, hkr⟩ := he
 have hlr := h.lr
 have hlb := h.lb
 obtain ⟨t1, l, rfl, hl, ho⟩ := hv
 have t1 : TE 10 σ (fun k => lo ≤ k) (.agg ⟨l⟩) p := ⟨t1, l, rfl, hl, ho⟩
 rw [abo]
 refine Ld Tryz.func203 Tryz.ntmps203 Tryz.results203 fun A hz a0 a1 a2 => ?_
 refine kR a0 a1 a2 gk hl ho ?_
 refine aj (qx a0 a1 a2 gk) ?_
 refine C.mono (Oc (h.kp (((Kp.refl σ).push _).push _)) x) ?_
 rintro _ σ1 ⟨rfl, h1, g1⟩
 have wI := g1.next
 simp only [ah] at wI
 have nN := (g1.get σ.next (by first | omega | (simp only [ah, au]; first | done | omega)) (by omega)).trans ((aC (by first | omega | (simp only [ah, au]; first | done | omega))).trans aA)
 have E8 := (g1.get (σ.next + 1) (by first | omega | (simp only [ah, au]; first | done | omega)) (by omega)).trans aA
 have gK1 := (g1.unpush.unpush.get k hk hkr).trans gk
 have t1a := (t1.ks (((Ks.refl σ).push _).push _)).ks (g1.ks (h.kp (((Kp.refl σ).push _).push _)).ez)
 replace g1 := g1.unpush.unpush
 refine dS a0 a1 a2 ?_
 refine bY mixed (by kernel_rfl) (by kernel_rfl) ?_
 refine YE a0 a1 a2 nN gK1 hl ho ?_
 refine bD (lF a0 a1 a2) ?_
 refine C.mono (hP _ _ trivial h1) ?_
 rintro _ σ2 ⟨⟨t2, l2, rfl, hl2, ho2⟩, h2, g2⟩
 have t2 : TE 10 σ2 _ (.agg ⟨l2⟩) _ := ⟨t2, l2, rfl, hl2, ho2⟩
 have nM := g2.next
 have kU := (g2.get σ.next (by omega) (by omega)).trans nN
 have sF := (g2.get (σ.next + 1) (by omega) (by omega)).trans E8
 have XQ := (g2.get k (by omega) hkr).trans gK1
 have t2a := t1a.ks (g2.ks h1.ez)
 replace g2 := g1.trans g2
 have p2 : ∀ B1 : fZ, (σ2.push B1).get (σ.next + 1) = _ := fun _ => (aC (by omega)).trans sF
 refine XM a0 a1 a2 kU XQ p2 hl (cJ ho (cJ hl2 ho2)) ?_
 refine oW [(1, 0), (1, 4), (2, 0)] ?_ ?_
 ·(repeat (refine aO (bg rfl rfl rfl rfl rfl (kC a0 a1 a2 nN gK1 kU XQ (cJ hl ho))) ?_)); exact bn
 refine fQ p2 ?_
 have w3 : ∀ B1 B2 : fZ, Ow σ.next σ2 ((σ2.push B1).set (σ.next + 1) B2) := fun _ _ => ((Ow.refl σ.next σ2).push _).set (by omega) _
 have e3 : ∀ B1 B2 : fZ, Ks σ2 ((σ2.push B1).set (σ.next + 1) B2) := fun _ _ => ((Ks.refl σ2).push _).set (.inr (by rw [sF])) _
 exact ⟨I9 (aW _ _ _) (aW _ _ _) (aW _ _ _) (aW _ _ _) (aW _ _ _) (aW _ _ _) (D6 (e := 61) (z := 1) (dD) (by decide) (by first | omega | (simp only [ah, au]; first | done | omega)) (by first | omega | (simp only [ah, au]; first | done | omega)) (t2a.ks (e3 _ _)) ((t2.ks (e3 _ _)).lo (fun j hj => by have := hj; omega))), h2.ow (w3 _ _) hlr hlb, g2.ow (w3 _ _)⟩
theorem YS {K : gG} {d : Int} (hK : JO K r b T d) (hP : Reads (fun _ => True) 10 r b T d 202 [.pointer (some ⟨r, 0, none⟩)] (rO K)) : Reads (fun _ => True) 10 r b T d 183 [.pointer (some ⟨r, 0, none⟩)] (ET K) := by
 intro σ s he h
 have hlr := h.lr
 have hlb := h.lb
 have hsh : ∀ p x, bQ (Ai K p x) := fun p x => (vT _).bind fun _ => (EY hK.sh).bind fun _ => .pure _
 have e : ET K s = dL (Ai K) [sV, mJ, iU] (rO K s).1 (rO K s).2 := rfl
 rw [e]
 refine pK Tryz.func183 Tryz.ntmps183 Tryz.results183 fun A hz a0 => ?_
 refine jR a0 ?_
 refine bY mixed (by kernel_rfl) (qj (i := 4) (d := 7) (by kernel_rfl) rfl rfl (by simp only [rD, hz]; decide)) ?_
 refine gT1 a0 ?_
 refine bD (aU a0) ?_
 refine C.mono (hP _ _ trivial (h.kp (((Kp.refl σ).push _).push _))) ?_
 rintro _ σ2 ⟨⟨t2, l2, rfl, hl2, ho2⟩, h2, g2⟩
 have t2 : TE 10 σ2 _ (.agg ⟨l2⟩) _ := ⟨t2, l2, rfl, hl2, ho2⟩
 have nM := g2.next
 simp only [ah] at nM
 have kU := (g2.get σ.next (by first | omega | (simp only [ah, au]; first | done | omega)) (by omega)).trans ((aC (by first | omega | (simp only [ah, au]; first | done | omega))).trans aA)
 have sF := (g2.get (σ.next + 1) (by first | omega | (simp only [ah, au]; first | done | omega)) (by omega)).trans aA
 have p2 : ∀ B : fZ, (σ2.push B).get σ.next = _ := fun _ => (aC (by omega)).trans kU
 refine Ub a0 kU p2 ?_
 refine bD (aU a0) ?_
 refine C.mono (YI (fs := []) (cs := [.pointer (some ⟨σ.next, 0, none⟩)]) (E := fun τ => τ.get σ.next = ⟨1, 63, 0, [.pointer (some ⟨r, 0, none⟩)]⟩ ∧ σ.next < τ.next ∧ σ.next ≠ r) (fun τ τ' he g => ⟨(g.get _ he.2.1 he.2.2).trans he.1, Nat.lt_of_lt_of_le he.2.1 g.next, he.2.2⟩) (ws := [sV, mJ, iU]) (Nat.le_of_ble_eq_true rfl) hsh (fun τ s' lo v p x he h hlo hv _ => Vy hP _ τ s' lo v p x he h hlo hv) ⟨p2 _, by first | omega | (simp only [ah, au]; first | done | omega), by omega⟩ (h2.kp ((Kp.refl σ2).push _)) (lo := σ.next) (by first | omega | (simp only [ah, au]; first | done | omega)) ((t2.ks ((Ks.refl σ2).push _)).lo (fun j hj => by have := hj; simp only [ah] at this; omega)) (e := 9) (z := 1) (dD) (by first | omega | (simp only [ah, au]; first | done | omega)) (by first | omega | (simp only [ah, au]; first | done | omega))) ?_
 rintro _ σ3 ⟨⟨t3, l3, rfl, hl3, ho3⟩, h3, g3⟩
 have Dl := g3.next
 simp only [ah] at Dl
 have tq := (g3.get σ.next (by first | omega | (simp only [ah, au]; first | done | omega)) (by omega)).trans (p2 _)
 have rU := (g3.get (σ.next + 1) (by first | omega | (simp only [ah, au]; first | done | omega)) (by omega)).trans ((aC (by omega)).trans sF)
 refine Uc a0 tq rU hl3 ho3 ?_
 refine oW [(0, 0), (0, 3), (0, 5), (1, 0)] ?_ ?_
 ·(repeat (refine aO (bg rfl rfl rfl rfl rfl (qx a0 kU tq p2)) ?_)); exact bn
 refine D7 rU hl3 ?_
 exact aX ((Ow.refl _ _).set (by omega) _) (g2.unpush.unpush.trans g3.unpush) h3 hlr hlb ((TE.ks ⟨t3, l3, rfl, hl3, ho3⟩ ((Ks.refl σ3).set (.inr (by rw [rU])) _)))
end
section
variable {r b : Nat} {T : List Tk}
theorem abp (K : gG) (s : Sy) (c : eF qh s = true) : rO K s = bH K.parts s := by
 unfold rO
 rw [tu, if_pos c]
def Oe (K : gG) : SM Tr := do
 dA eX
 let d ← aB eH
 let items ← jW dJ (Hg K)
 let froms ← fJ lg (vO K)
 let wh ← fJ jm K.or
 let gh ← y8 K
 let or ← y9 K
 let n ← zf
 pure (DL 1 d n items froms wh gh.1 gh.2 or [])
theorem abq (K : gG) (s : Sy) (c : eF qh s = false) : rO K s = Oe K s := by
 unfold rO
 rw [tu, if_neg (by simp [c])]
 rfl
theorem bnd {α β : Type} {m : SM α} {k : α → SM β} {s s' : Sy} {a : α} (h : m s = (a, s')) : (m >>= k) s = k a s' := by
 rw [SM.bind_run, h]
theorem abr {K : gG} {s s1 s2 s3 s4 s5 s6 s7 s8 : Sy} {u d items froms wh gh or n} (h1 : dA eX s = (u, s1)) (h2 : aB eH s1 = (d, s2)) (h3 : jW dJ (Hg K) s2 = (items, s3)) (h4 : fJ lg (vO K) s3 = (froms, s4)) (h5 : fJ jm K.or s4 = (wh, s5)) (h6 : y8 K s5 = (gh, s6)) (h7 : y9 K s6 = (or, s7)) (h8 : zf s7 = (n, s8)) : Oe K s = (DL 1 d n items froms wh gh.1 gh.2 or [], s8) := by
 unfold Oe
 rw [bnd h1, bnd h2, bnd h3, bnd h4, bnd h5, bnd h6, bnd h7, bnd h8]
 rfl
theorem Vz (K : gG) (s : Sy) : y8 K s = if (aB lJ s).1 = true then (((jW dJ K.or (dA xu (aB lJ s).2).2).1, (fJ oh K.or (jW dJ K.or (dA xu (aB lJ s).2).2).2).1), (fJ oh K.or (jW dJ K.or (dA xu (aB lJ s).2).2).2).2) else (([], []), (aB lJ s).2) := by
 unfold y8
 rw [jK]
 split
 ·rw [SM.bind_run, SM.bind_run, SM.bind_run]
  rfl
 ·rfl
theorem VA (K : gG) (s : Sy) : y9 K s = if (aB mW s).1 = true then jW dJ (keyS K) (dA xu (aB mW s).2).2 else ([], (aB mW s).2) := by
 unfold y9
 rw [jK]
 split
 ·rw [SM.bind_run]
 ·rfl
theorem VB (s : Sy) : zf s = if (aB oq s).1 = true then lK (aB oq s).2 else (-1, (aB oq s).2) := by
 unfold zf
 rw [jK]
 split
 ·rfl
 ·rfl
structure PSt (r b : Nat) (T : List Tk) (d : Int) (σ : AW) (M : Nat) (A : Fr) (σ' : AW) (s' : Sy) (di : Bool) (n : Int) (p2 p3 p4 p5 p6 p7 : List Tr) : Prop where
 hz : A.size = 59
 a0 : A.get 0 = some (.pointer (some ⟨r, 0, none⟩))
 a2 : A.get 2 = some (.pointer (some ⟨σ.next, 0, none⟩))
 a3 : A.get 3 = some (.pointer (some ⟨M, 0, none⟩))
 hs : lu σ' r b T d s'
 g : Gr r σ σ'
 lM : σ.next < M
 nx : M < σ'.next
 z : σ'.get σ.next = ⟨1, 61, 0, [.int .i64 0, .bool false, .slice none 0 0, .slice none 0 0, .slice none 0 0, .slice none 0 0, .slice none 0 0, .slice none 0 0, .int .i64 0, .slice none 0 0]⟩
 q : ∃ v2 v3 v4 v5 v6 v7, σ'.get M = ⟨1, 61, 0, [.int .i64 1, .bool di, v2, v3, v4, v5, v6, v7, .int .i64 n, .slice none 0 0]⟩ ∧ Rd σ' (fun k => σ.next ≤ k) (sl 7 p2) v2 ∧ Rd σ' (fun k => σ.next ≤ k) (sl 7 p3) v3 ∧ Rd σ' (fun k => σ.next ≤ k) (sl 6 p4) v4 ∧ Rd σ' (fun k => σ.next ≤ k) (sl 6 p5) v5 ∧ Rd σ' (fun k => σ.next ≤ k) (sl 6 p6) v6 ∧ Rd σ' (fun k => σ.next ≤ k) (sl 7 p7) v7
theorem Rd.lo {σ : AW} {D D' : Nat → Prop} {v p : Value} (h : Rd σ D p v) (hD : ∀ k, D k → D' k) : Rd σ D' p v := h.keep (fun _ _ _ _ => rfl) (Nat.le_refl _) (fun k h _ => hD k h)
theorem bC {σ : AW} {D : Nat → Prop} {n : Nat} {l : List Value} {v : Value} (h : Rd σ D (sl n l) v) : ∃ a k c, v = .slice a k c := by
 obtain ⟨m, _, hs⟩ := oO.1 h
 rcases hs with ⟨_, a, c, rfl⟩ | ⟨b, o, c, k, e, z, cs, rfl, _⟩
 ·exact ⟨_, _, _, rfl⟩
 ·exact ⟨_, _, _, rfl⟩
set_option maxHeartbeats 1600000 in
theorem abt (hW : uo) {K : gG} {d : Int} (hK : JO K r b T d) : Reads (fun _ => True) 10 r b T d 202 [.pointer (some ⟨r, 0, none⟩)] (rO K) := by
 intro σ s he h
 have hlr := h.lr
 have hlb := h.lb
 refine pK Tryz.func202 Tryz.ntmps202 Tryz.results202 fun A hz a0 => ?_
 refine jR a0 ?_
 refine aj (aU a0) ?_
 refine C.mono (zh (h.kp ((Kp.refl σ).push _)) qh) ?_
 rintro _ σ1 ⟨rfl, k1⟩
 have wI := k1.next
 simp only [ah] at wI
 have nN := (k1.get σ.next (by first | omega | (simp only [ah, au]; first | done | omega))).trans aA
 have h1 := (h.kp ((Kp.refl σ).push _)).kp k1
 replace k1 := (((Kp.refl σ).push _).trans k1).gr r
 cases c : eF qh s with
 | true =>
  rw [abp K s c]
  refine jR a0 ?_
  refine aj (aU a0) ?_
  refine C.mono (E5 (fs := [.pointer (some ⟨r, 0, none⟩)]) (cs := []) cO hK.parts _ _ trivial h1) ?_
  rintro _ σ2 ⟨⟨t2, l2, rfl, hl2, ho2⟩, h2, g2⟩
  have nM := g2.next
  have kU := (g2.get σ.next (by omega) (by omega)).trans nN
  replace g2 := k1.trans g2
  have t2 : TE 10 σ2 (fun k => σ1.next ≤ k) (.agg ⟨l2⟩) (bH K.parts s).1 := ⟨t2, l2, rfl, hl2, ho2⟩
  refine dV a0 hl2 ho2 kU ?_
  refine D7 kU hl2 ?_
  exact aX ((Ow.refl _ _).set (Nat.le_refl _) _) g2 h2 hlr hlb ((t2.ks ((Ks.refl σ2).set (.inr (by rw [kU])) _)).lo (fun k hk => by have := hk; omega))
 | false =>
  rw [abq K s c]
  refine jR a0 ?_
  refine aj (aU a0) ?_
  refine C.mono (jX h1 eX) ?_
  rintro _ σ2 ⟨h2, g2⟩
  have nM := g2.next
  have kU := (g2.get σ.next (by omega) (by omega)).trans nN
  replace g2 := k1.trans g2
  refine jR a0 ?_
  refine aj (aU a0) ?_
  refine C.mono (gV h2 eH) ?_
  rintro _ σ3 ⟨rfl, h3, g3⟩
  have Dl := g3.next
  have tq := (g3.get σ.next (by omega) (by omega)).trans kU
  replace g3 := g2.trans g3
  (repeat ((first | apply zC | (refine' zG rfl rfl ?_ ?_; rotate_left)); (focus (first | exact aU a0 | fail)); with_reducible first | apply zF | apply g_1 | apply g_2 | apply jO | apply lV | apply c_1 | apply c_2)); apply zD
  obtain ⟨M, hM⟩ : ∃ M, M = σ3.next := ⟨_, rfl⟩
  rw [← hM]
  have w3 : ∀ B1 B2 : fZ, Ow σ.next σ3 ((σ3.push B1).set M B2) := fun _ _ => (((Ow.refl σ.next σ3).push _).set (by omega) _)
  obtain ⟨s4, items, e4⟩ : ∃ s4 items, jW dJ (Hg K) (aB eH (dA eX s).2).2 = (items, s4) := ⟨_, _, rfl⟩
  obtain ⟨s5, froms, e5⟩ : ∃ s5 froms, fJ lg (vO K) s4 = (froms, s5) := ⟨_, _, rfl⟩
  obtain ⟨s6, wh, e6⟩ : ∃ s6 wh, fJ jm K.or s5 = (wh, s6) := ⟨_, _, rfl⟩
  obtain ⟨s7, gr, ha, e7⟩ : ∃ s7 gr ha, y8 K s6 = ((gr, ha), s7) := ⟨_, _, _, rfl⟩
  obtain ⟨s8, or, e8⟩ : ∃ s8 or, y9 K s7 = (or, s8) := ⟨_, _, rfl⟩
  obtain ⟨s9, n, e9⟩ : ∃ s9 n, zf s8 = (n, s9) := ⟨_, _, rfl⟩
  rw [abr (u := ()) (s1 := (dA eX s).2) (d := (aB eH (dA eX s).2).1) (s2 := (aB eH (dA eX s).2).2) rfl rfl e4 e5 e6 e7 e8 e9]
  generalize (aB eH (dA eX s).2).1 = di
  refine yD (W.mono (Q := fun e A' σ' => e = .normal ∧ PSt r b T d σ M A' σ' s4 di (-1) items [] [] [] [] []) ?_ ?_)
  ·refine jR a0 ?_
   refine aj (aU a0) ?_
   refine C.mono (YL (fs := [.pointer (some ⟨r, 0, none⟩)]) (cs := []) cO (Le hK.sh) (abk hW hK) dJ _ _ trivial (h3.ow (w3 _ _) hlr hlb)) ?_
   rw [e4]
   rintro v2 σ4 ⟨t4, h4, g4⟩
   have Gt := g4.next
   simp only [ah, au] at Gt
   have uG := (g4.get σ.next (by first | omega | (simp only [ah, au]; first | done | omega)) (by omega)).trans ((bG (by omega)).trans ((aC (by omega)).trans tq))
   have wL := (g4.get M (by first | omega | (simp only [ah, au]; first | done | omega)) (by omega)).trans bF
   obtain ⟨x2, y2, z2, rfl⟩ := bC t4
   refine gQ a0 wL ?_
   refine ⟨rfl, dD, aU a0, dD, dD, h4.ow ((Ow.refl σ.next σ4).set (by omega) _) hlr hlb, ((g3.ow (w3 _ _)).trans g4).ow ((Ow.refl σ.next σ4).set (by omega) _), by omega, by first | omega | (simp only [ah, au]; first | done | omega), (bG (by omega)).trans uG, ?_⟩
   have kM : ∀ B : fZ, Ks σ4 (σ4.set M B) := fun _ => (Ks.refl σ4).set (.inr (by rw [wL])) _
   exact ⟨_, _, _, _, _, _, bF, (t4.ks (kM _)).lo (fun k hk => by have := hk; simp only [ah, au] at this; omega), aW _ _ _, aW _ _ _, aW _ _ _, aW _ _ _, aW _ _ _⟩
  rintro _ A σ4 ⟨rfl, hz, a0, a2, a3, h4, g4, lM, Gt, uG, v2, v3, v4, v5, v6, v7, wL, t2, t3, t4, t5, t6, t7⟩
  simp only [Then]
  obtain ⟨v2a, v2b, v2c, rfl⟩ := bC t2
  obtain ⟨v3a, v3b, v3c, rfl⟩ := bC t3
  obtain ⟨v4a, v4b, v4c, rfl⟩ := bC t4
  obtain ⟨v5a, v5b, v5c, rfl⟩ := bC t5
  obtain ⟨v6a, v6b, v6c, rfl⟩ := bC t6
  obtain ⟨v7a, v7b, v7c, rfl⟩ := bC t7
  refine yD (W.mono (Q := fun e A' σ' => e = .normal ∧ PSt r b T d σ M A' σ' s5 di (-1) items froms [] [] [] []) ?_ ?_)
  ·refine gQ a0 a3 ?_
   refine aj (aU a0) ?_
   refine C.mono (abh (fs := [.pointer (some ⟨r, 0, none⟩)]) (cs := []) cO (Vx hW hK) lg _ _ trivial h4) ?_
   rw [e5]
   rintro x5 σ5 ⟨q5, h5, g5⟩
   have Vt := g5.next
   try simp only [au] at Vt
   have BQ := (g5.get σ.next (by omega) (by omega)).trans uG
   have A8 := (g5.get M (by omega) (by omega)).trans wL
   have k5 := g5.ks h4.ez
   obtain ⟨y5, y6, y7, rfl⟩ := bC q5
   refine dS a0 a3 A8 ?_
   refine ⟨rfl, dD, aU a0, aU a2, aU a3, h5.ow ((Ow.refl σ.next σ5).set (by omega) _) hlr hlb, (g4.trans g5).ow ((Ow.refl σ.next σ5).set (by omega) _), by omega, by first | omega | (simp only [ah, au]; first | done | omega), (bG (by omega)).trans BQ, ?_⟩
   have kM : ∀ B : fZ, Ks σ5 (σ5.set M B) := fun _ => (Ks.refl σ5).set (.inr (by rw [A8])) _
   exact ⟨_, _, _, _, _, _, bF, (t2.ks k5).ks (kM _), (q5.lo (fun k hk => by have := hk; omega)).ks (kM _), (t4.ks k5).ks (kM _), (t5.ks k5).ks (kM _), (t6.ks k5).ks (kM _), (t7.ks k5).ks (kM _)⟩
  rintro _ A σ4 ⟨rfl, hz, a0, a2, a3, h4, g4, lM, Gt, uG, v2, v3, v4, v5, v6, v7, wL, t2, t3, t4, t5, t6, t7⟩
  simp only [Then]
  obtain ⟨v2a, v2b, v2c, rfl⟩ := bC t2
  obtain ⟨v3a, v3b, v3c, rfl⟩ := bC t3
  obtain ⟨v4a, v4b, v4c, rfl⟩ := bC t4
  obtain ⟨v5a, v5b, v5c, rfl⟩ := bC t5
  obtain ⟨v6a, v6b, v6c, rfl⟩ := bC t6
  obtain ⟨v7a, v7b, v7c, rfl⟩ := bC t7
  refine yD (W.mono (Q := fun e A' σ' => e = .normal ∧ PSt r b T d σ M A' σ' s6 di (-1) items froms wh [] [] []) ?_ ?_)
  ·refine gQ a0 a3 ?_
   refine aj (aU a0) ?_
   refine C.mono (Vk (fs := [.pointer (some ⟨r, 0, none⟩)]) (cs := []) cO hK.or jm _ _ trivial h4) ?_
   rw [e6]
   rintro x5 σ5 ⟨q5, h5, g5⟩
   have Vt := g5.next
   try simp only [au] at Vt
   have BQ := (g5.get σ.next (by omega) (by omega)).trans uG
   have A8 := (g5.get M (by omega) (by omega)).trans wL
   have k5 := g5.ks h4.ez
   obtain ⟨y5, y6, y7, rfl⟩ := bC q5
   refine dS a0 a3 A8 ?_
   refine ⟨rfl, dD, aU a0, aU a2, aU a3, h5.ow ((Ow.refl σ.next σ5).set (by omega) _) hlr hlb, (g4.trans g5).ow ((Ow.refl σ.next σ5).set (by omega) _), by omega, by first | omega | (simp only [ah, au]; first | done | omega), (bG (by omega)).trans BQ, ?_⟩
   have kM : ∀ B : fZ, Ks σ5 (σ5.set M B) := fun _ => (Ks.refl σ5).set (.inr (by rw [A8])) _
   exact ⟨_, _, _, _, _, _, bF, (t2.ks k5).ks (kM _), (t3.ks k5).ks (kM _), (q5.lo (fun k hk => by have := hk; omega)).ks (kM _), (t5.ks k5).ks (kM _), (t6.ks k5).ks (kM _), (t7.ks k5).ks (kM _)⟩
  rintro _ A σ4 ⟨rfl, hz, a0, a2, a3, h4, g4, lM, Gt, uG, v2, v3, v4, v5, v6, v7, wL, t2, t3, t4, t5, t6, t7⟩
  simp only [Then]
  obtain ⟨v2a, v2b, v2c, rfl⟩ := bC t2
  obtain ⟨v3a, v3b, v3c, rfl⟩ := bC t3
  obtain ⟨v4a, v4b, v4c, rfl⟩ := bC t4
  obtain ⟨v5a, v5b, v5c, rfl⟩ := bC t5
  obtain ⟨v6a, v6b, v6c, rfl⟩ := bC t6
  obtain ⟨v7a, v7b, v7c, rfl⟩ := bC t7
  refine gQ a0 a3 ?_
  refine aj (aU a0) ?_
  refine C.mono (gV h4 lJ) ?_
  rintro _ σ5 ⟨rfl, h5, g5⟩
  have Vt := g5.next
  have BQ := (g5.get σ.next (by omega) (by omega)).trans uG
  have A8 := (g5.get M (by omega) (by omega)).trans wL
  have k5 := g5.ks h4.ez
  (repeat ((first | apply zC | (refine' zG rfl rfl ?_ ?_; rotate_left)); (focus (first | exact bP a0 a3 | fail)); with_reducible first | apply zF | apply g_1 | apply g_2 | apply jO | apply lV | apply c_1 | apply c_2)); apply zD
  refine W.mono (Q := fun e A' σ' => e = .normal ∧ PSt r b T d σ M A' σ' s7 di (-1) items froms wh gr ha []) ?_ ?_
  ·rw [Vz] at e7
   cases cg : (aB lJ s6).1 with
   | true =>
    rw [if_pos cg] at e7
    cases e7
    refine gQ a0 a3 ?_
    refine aj (aU a0) ?_
    refine C.mono (jX h5 xu) ?_
    rintro _ σ6 ⟨h6, g6⟩
    have nx6 := g6.next
    have Fa := (g6.get σ.next (by omega) (by omega)).trans BQ
    have XO := (g6.get M (by omega) (by omega)).trans A8
    have k6 := k5.trans (g6.ks h5.ez)
    refine gQ a0 a3 ?_
    refine aj (aU a0) ?_
    refine C.mono (YK (fs := [.pointer (some ⟨r, 0, none⟩)]) (cs := []) cO hK.sh.or hK.or dJ _ _ trivial h6) ?_
    rintro x7 σ7 ⟨q7, h7, g7⟩
    have nx7 := g7.next
    try simp only [au] at nx7
    have Nb := (g7.get σ.next (by omega) (by omega)).trans Fa
    have Nc := (g7.get M (by omega) (by omega)).trans XO
    have k7 := k6.trans (g7.ks h6.ez)
    obtain ⟨y5, y6, y7, rfl⟩ := bC q7
    refine dS a0 a3 Nc ?_
    have ow7 : ∀ B : fZ, Ow σ.next σ7 (σ7.set M B) := fun _ => (Ow.refl σ.next σ7).set (by omega) _
    have kM7 : ∀ B : fZ, Ks σ7 (σ7.set M B) := fun _ => (Ks.refl σ7).set (.inr (by rw [Nc])) _
    refine aj (aU a0) ?_
    refine C.mono (Vk (fs := [.pointer (some ⟨r, 0, none⟩)]) (cs := []) cO hK.or oh _ _ trivial (h7.ow (ow7 _) hlr hlb)) ?_
    rintro x8 σ8 ⟨q8, h8, g8⟩
    have nx8 := g8.next
    try simp only [au] at nx8
    have Vp := (g8.get σ.next (by first | omega | (simp only [ah, au]; first | done | omega)) (by omega)).trans ((bG (by omega)).trans Nb)
    have XP := (g8.get M (by first | omega | (simp only [ah, au]; first | done | omega)) (by omega)).trans bF
    have k8 := (kM7 _).trans (g8.ks (h7.ow (ow7 _) hlr hlb).ez)
    obtain ⟨z5, z6, z7, rfl⟩ := bC q8
    refine dS a0 a3 XP ?_
    refine ⟨rfl, dD, aU a0, aU a2, aU a3, h8.ow ((Ow.refl σ.next σ8).set (by omega) _) hlr hlb, ((((g4.trans g5).trans (g6.trans g7)).ow (ow7 _)).trans g8).ow ((Ow.refl σ.next σ8).set (by omega) _), by omega, by first | omega | (simp only [ah, au]; first | done | omega), (bG (by omega)).trans Vp, ?_⟩
    have kM : ∀ B : fZ, Ks σ8 (σ8.set M B) := fun _ => (Ks.refl σ8).set (.inr (by rw [XP])) _
    exact ⟨_, _, _, _, _, _, bF, ((t2.ks k7).ks k8).ks (kM _), ((t3.ks k7).ks k8).ks (kM _), ((t4.ks k7).ks k8).ks (kM _), ((q7.lo (fun k hk => by have := hk; omega)).ks k8).ks (kM _), (q8.lo (fun k hk => by have := hk; simp only [au] at this; omega)).ks (kM _), ((t7.ks k7).ks k8).ks (kM _)⟩
   | false =>
    rw [if_neg (by simp [cg])] at e7
    cases e7
    refine gQ a0 a3 ?_
    exact (by refine' ⟨rfl, ?_, ?_, ?_, ?_, h5, g4.trans g5, lM, by omega, BQ, _, _, _, _, _, _, A8, t2.ks k5, t3.ks k5, t4.ks k5, t5.ks k5, t6.ks k5, t7.ks k5⟩; any_goals (first | exact lF a0 a2 a3 | fail))
  rintro _ A σ4 ⟨rfl, hz, a0, a2, a3, h4, g4, lM, Gt, uG, v2, v3, v4, v5, v6, v7, wL, t2, t3, t4, t5, t6, t7⟩
  simp only [Then]
  obtain ⟨v2a, v2b, v2c, rfl⟩ := bC t2
  obtain ⟨v3a, v3b, v3c, rfl⟩ := bC t3
  obtain ⟨v4a, v4b, v4c, rfl⟩ := bC t4
  obtain ⟨v5a, v5b, v5c, rfl⟩ := bC t5
  obtain ⟨v6a, v6b, v6c, rfl⟩ := bC t6
  obtain ⟨v7a, v7b, v7c, rfl⟩ := bC t7
  refine gQ a0 a3 ?_
  refine aj (aU a0) ?_
  refine C.mono (gV h4 mW) ?_
  rintro _ σ5 ⟨rfl, h5, g5⟩
  have Vt := g5.next
  have BQ := (g5.get σ.next (by omega) (by omega)).trans uG
  have A8 := (g5.get M (by omega) (by omega)).trans wL
  have k5 := g5.ks h4.ez
  (repeat ((first | apply zC | (refine' zG rfl rfl ?_ ?_; rotate_left)); (focus (first | exact bP a0 a3 | fail)); with_reducible first | apply zF | apply g_1 | apply g_2 | apply jO | apply lV | apply c_1 | apply c_2)); apply zD
  refine W.mono (Q := fun e A' σ' => e = .normal ∧ PSt r b T d σ M A' σ' s8 di (-1) items froms wh gr ha or) ?_ ?_
  ·rw [VA] at e8
   cases cg : (aB mW s7).1 with
   | true =>
    rw [if_pos cg] at e8
    refine gQ a0 a3 ?_
    refine aj (aU a0) ?_
    refine C.mono (jX h5 xu) ?_
    rintro _ σ6 ⟨h6, g6⟩
    have nx6 := g6.next
    have Fa := (g6.get σ.next (by omega) (by omega)).trans BQ
    have XO := (g6.get M (by omega) (by omega)).trans A8
    have k6 := k5.trans (g6.ks h5.ez)
    refine gQ a0 a3 ?_
    refine aj (aU a0) ?_
    refine C.mono (YM (fs := [.pointer (some ⟨r, 0, none⟩)]) (cs := []) cO (Qg hK.sh) (ac9 hK) dJ _ _ trivial h6) ?_
    rw [e8]
    rintro x7 σ7 ⟨q7, h7, g7⟩
    have nx7 := g7.next
    try simp only [au] at nx7
    have Nb := (g7.get σ.next (by omega) (by omega)).trans Fa
    have Nc := (g7.get M (by omega) (by omega)).trans XO
    have k7 := k6.trans (g7.ks h6.ez)
    obtain ⟨y5, y6, y7, rfl⟩ := bC q7
    refine dS a0 a3 Nc ?_
    refine ⟨rfl, dD, aU a0, aU a2, aU a3, h7.ow ((Ow.refl σ.next σ7).set (by omega) _) hlr hlb, ((g4.trans g5).trans (g6.trans g7)).ow ((Ow.refl σ.next σ7).set (by omega) _), by omega, by first | omega | (simp only [ah, au]; first | done | omega), (bG (by omega)).trans Nb, ?_⟩
    have kM : ∀ B : fZ, Ks σ7 (σ7.set M B) := fun _ => (Ks.refl σ7).set (.inr (by rw [Nc])) _
    exact ⟨_, _, _, _, _, _, bF, (t2.ks k7).ks (kM _), (t3.ks k7).ks (kM _), (t4.ks k7).ks (kM _), (t5.ks k7).ks (kM _), (t6.ks k7).ks (kM _), (q7.lo (fun k hk => by have := hk; omega)).ks (kM _)⟩
   | false =>
    rw [if_neg (by simp [cg])] at e8
    cases e8
    refine gQ a0 a3 ?_
    exact (by refine' ⟨rfl, ?_, ?_, ?_, ?_, h5, g4.trans g5, lM, by omega, BQ, _, _, _, _, _, _, A8, t2.ks k5, t3.ks k5, t4.ks k5, t5.ks k5, t6.ks k5, t7.ks k5⟩; any_goals (first | exact lF a0 a2 a3 | fail))
  rintro _ A σ4 ⟨rfl, hz, a0, a2, a3, h4, g4, lM, Gt, uG, v2, v3, v4, v5, v6, v7, wL, t2, t3, t4, t5, t6, t7⟩
  simp only [Then]
  obtain ⟨v2a, v2b, v2c, rfl⟩ := bC t2
  obtain ⟨v3a, v3b, v3c, rfl⟩ := bC t3
  obtain ⟨v4a, v4b, v4c, rfl⟩ := bC t4
  obtain ⟨v5a, v5b, v5c, rfl⟩ := bC t5
  obtain ⟨v6a, v6b, v6c, rfl⟩ := bC t6
  obtain ⟨v7a, v7b, v7c, rfl⟩ := bC t7
  refine gQ a0 a3 ?_
  refine aj (aU a0) ?_
  refine C.mono (gV h4 oq) ?_
  rintro _ σ5 ⟨rfl, h5, g5⟩
  have Vt := g5.next
  have BQ := (g5.get σ.next (by omega) (by omega)).trans uG
  have A8 := (g5.get M (by omega) (by omega)).trans wL
  have k5 := g5.ks h4.ez
  (repeat ((first | apply zC | (refine' zG rfl rfl ?_ ?_; rotate_left)); (focus (first | exact bP a0 a3 | fail)); with_reducible first | apply zF | apply g_1 | apply g_2 | apply jO | apply lV | apply c_1 | apply c_2)); apply zD
  refine W.mono (Q := fun e A' σ' => e = .normal ∧ PSt r b T d σ M A' σ' s9 di n items froms wh gr ha or) ?_ ?_
  ·rw [VB] at e9
   cases cg : (aB oq s8).1 with
   | true =>
    rw [if_pos cg] at e9
    refine gQ a0 a3 ?_
    refine aj (aU a0) ?_
    refine C.mono (Vf h5) ?_
    rw [e9]
    rintro _ σ7 ⟨rfl, h7, g7⟩
    have nx7 := g7.next
    have Nb := (g7.get σ.next (by omega) (by omega)).trans BQ
    have Nc := (g7.get M (by omega) (by omega)).trans A8
    have k7 := k5.trans (g7.ks h5.ez)
    refine dS a0 a3 Nc ?_
    refine ⟨rfl, dD, aU a0, aU a2, aU a3, h7.ow ((Ow.refl σ.next σ7).set (by omega) _) hlr hlb, ((g4.trans g5).trans g7).ow ((Ow.refl σ.next σ7).set (by omega) _), by omega, by first | omega | (simp only [ah, au]; first | done | omega), (bG (by omega)).trans Nb, ?_⟩
    have kM : ∀ B : fZ, Ks σ7 (σ7.set M B) := fun _ => (Ks.refl σ7).set (.inr (by rw [Nc])) _
    exact ⟨_, _, _, _, _, _, bF, (t2.ks k7).ks (kM _), (t3.ks k7).ks (kM _), (t4.ks k7).ks (kM _), (t5.ks k7).ks (kM _), (t6.ks k7).ks (kM _), (t7.ks k7).ks (kM _)⟩
   | false =>
    rw [if_neg (by simp [cg])] at e9
    cases e9
    refine gQ a0 a3 ?_
    exact (by refine' ⟨rfl, ?_, ?_, ?_, ?_, h5, g4.trans g5, lM, by omega, BQ, _, _, _, _, _, _, A8, t2.ks k5, t3.ks k5, t4.ks k5, t5.ks k5, t6.ks k5, t7.ks k5⟩; any_goals (first | exact lF a0 a2 a3 | fail))
  rintro _ A σ4 ⟨rfl, hz, a0, a2, a3, h4, g4, lM, Gt, uG, v2, v3, v4, v5, v6, v7, wL, t2, t3, t4, t5, t6, t7⟩
  simp only [Then]
  obtain ⟨v2a, v2b, v2c, rfl⟩ := bC t2
  obtain ⟨v3a, v3b, v3c, rfl⟩ := bC t3
  obtain ⟨v4a, v4b, v4c, rfl⟩ := bC t4
  obtain ⟨v5a, v5b, v5c, rfl⟩ := bC t5
  obtain ⟨v6a, v6b, v6c, rfl⟩ := bC t6
  obtain ⟨v7a, v7b, v7c, rfl⟩ := bC t7
  refine jy a0 a2 a3 wL uG ?_
  refine D7 a2 uG ?_
  have kN : ∀ B : fZ, Ks σ4 (σ4.set σ.next B) := fun _ => (Ks.refl σ4).set (.inr (by rw [uG])) _
  exact aX ((Ow.refl _ _).set (Nat.le_refl _) _) g4 h4 hlr hlb (I9 (t2.ks (kN _)) (t3.ks (kN _)) (t4.ks (kN _)) (t5.ks (kN _)) (t6.ks (kN _)) (t7.ks (kN _)) (aW _ _ _))
end
end Go.Proofs.YthogkmcahnkkoaaGreatDoor
namespace Go.Proofs.YthogkmcahnkkoaaGreatDoor
open Go.RowKit
set_option linter.unusedVariables false
section
variable {r b : Nat} {T : List Tk}
theorem Lr (hW : uo) {K : gG} {d : Int} (hK : JO K r b T d) : Reads (fun _ => True) 6 r b T d 200 [.pointer (some ⟨r, 0, none⟩)] (yZ K) ∧ Reads (fun _ => True) 6 r b T d 88 [.pointer (some ⟨r, 0, none⟩)] (notS K) ∧ Reads (fun _ => True) 6 r b T d 20 [.pointer (some ⟨r, 0, none⟩)] (orS K) ∧ Reads (fun _ => True) 10 r b T d 183 [.pointer (some ⟨r, 0, none⟩)] (ET K) := by
 have h1 := YO hK (abj hW hK)
 have h2 := ac5 hK (Ob hK (ac4 (Dk hK.sh) (Ro (BN hK.sh) h1)))
 exact ⟨h1, h2, agi (Qe hK.sh) (ac3 (Je hK.sh) h2), YS hK (abt hW hK)⟩
theorem VD (hW : uo) : ∀ (n : Nat) (d : Int), d + n = 40 → 0 ≤ d → JO (I8 n) r b T d
 | 0, d, hd, h0 => by
  have e : d = 40 := by omega
  have hE : ∀ (g : Nat) (fs cs : List Value), Reads (fun _ => True) 6 r b T d 39 [.pointer (some ⟨r, 0, none⟩), .func (.func g) ⟨fs⟩ ⟨cs⟩] (tooDeep zE) := fun g fs cs => by
   have := BM (r := r) (b := b) (T := T) (g := g) (fs := fs) (cs := cs) (m := tooDeep zE) cO h0 (by omega) (fun h => absurd h (by omega))
   rwa [if_pos e] at this
  have hQ : ∀ (g : Nat) (fs cs : List Value), Reads (fun _ => True) 10 r b T d 182 [.pointer (some ⟨r, 0, none⟩), .func (.func g) ⟨fs⟩ ⟨cs⟩] (tooDeep zQ) := fun g fs cs => by
   have := Ho (r := r) (b := b) (T := T) (g := g) (fs := fs) (cs := cs) (m := tooDeep zQ) cO h0 (by omega) (fun h => absurd h (by omega))
   rwa [if_pos e] at this
  exact ⟨Vu (hE _ _ _), hE _ _ _, hE _ _ _, Qj (hQ _ _ _), rQ 0⟩
 | n + 1, d, hd, h0 => by
  have hK := VD hW n (d + 1) (by omega) (by omega)
  obtain ⟨h1, h2, h3, h4⟩ := Lr hW hK
  have hE : ∀ {g : Nat} {fs cs : List Value} {m : SM Tr}, Reads (fun _ => True) 6 r b T (d + 1) g (fs ++ cs) m → Reads (fun _ => True) 6 r b T d 39 [.pointer (some ⟨r, 0, none⟩), .func (.func g) ⟨fs⟩ ⟨cs⟩] m := fun h => by
   have := BM cO h0 (by omega) (fun _ => h)
   rwa [if_neg (by omega)] at this
  have hQ : ∀ {g : Nat} {fs cs : List Value} {m : SM Tr}, Reads (fun _ => True) 10 r b T (d + 1) g (fs ++ cs) m → Reads (fun _ => True) 10 r b T d 182 [.pointer (some ⟨r, 0, none⟩), .func (.func g) ⟨fs⟩ ⟨cs⟩] m := fun h => by
   have := Ho cO h0 (by omega) (fun _ => h)
   rwa [if_neg (by omega)] at this
  exact ⟨Vu (hE (fs := [.pointer (some ⟨r, 0, none⟩)]) (cs := []) h3), hE (fs := [.pointer (some ⟨r, 0, none⟩)]) (cs := []) h2, hE (fs := [.pointer (some ⟨r, 0, none⟩)]) (cs := []) h1, Qj (hQ (fs := [.pointer (some ⟨r, 0, none⟩)]) (cs := []) h4), rQ (n + 1)⟩
end
end Go.Proofs.YthogkmcahnkkoaaGreatDoor
