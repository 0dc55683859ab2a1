/- The program's reader: comparisons. The program's reader: queries. -/
import Derived.Test.YthogkmcahnkkoaaGreatDoorJ09
namespace Go.Proofs.YthogkmcahnkkoaaGreatDoor
open Go.RowKit
set_option maxRecDepth 10000
set_option linter.unusedSimpArgs false
set_option linter.unusedVariables false
section
variable {r b : Nat} {T : List Tk}
theorem Vq {P : Program} {A : Fr} {σ : AW} {id : Nat} {l all : List Oper} {ord : List Nat} {Q : Exit → Fr → AW → Prop} (hm : P.follows .mixedOrders = true) (hord : zO l = ord) (hall : mV l ord = all) (hp : Bh l ord = true) (hw : within l = true) (hok : yC all = true) (FY : kX all (dP all (iG [] all)) A = true)
  (h : rC P all 0 all [] [(0, σ)] A σ (fun pd st A' σ' => (∀ p ∈ owes all (iG [] all) (dP all (iG [] all)), qw P all pd st p) ∧ Q .normal A' σ')) : W P (.region id l.toArray true) A σ Q := by
 subst hord
 exact QN hm hall hp hw hok FY h
theorem qj {A : Fr} {all : List Oper} {i d : Nat} {o : Oper} (h1 : dP all (iG [] all) = i) (h2 : all[i]? = some o) (h3 : o.dst = some d) (h4 : d < A.size) : kX all (dP all (iG [] all)) A = true := by
 unfold kX
 rw [h1, h2]
 simp only [h3]
 unfold Fr.get
 rw [show Nat.blt d A.size = true from Nat.ble_eq_true_of_le h4]
 rfl
def Jj (K : gG) (x : Tr) (o : Option ByteArray) : SM Tr := do
 match o with
 | some mark => do
  let y ← Aa K
  pure (La x mark y)
 | none => do
  if ← aB uh then do
   let n ← aB iT
   dA kZ
   pure (kH 9 (if n then 1 else 0) eB eB [x] [])
  else if ← aB iT then inS K x 1
  else if ← oN uO then inS K x 0
  else pure x
theorem cmp_eq (K : gG) (s : Sy) : qR K s = Jj K (Aa K s).1 (aI [uS, Gj, Gl, Gm, Gn, Gp] (Aa K s).2).1 (aI [uS, Gj, Gl, Gm, Gn, Gp] (Aa K s).2).2 := rfl
theorem Vr (K : gG) (p : Tr) (x : ByteArray) (s : Sy) : Jj K p (some x) s = (La p x (Aa K s).1, (Aa K s).2) := rfl
theorem Vs (K : gG) (p : Tr) (s : Sy) : Jj K p none s = if (aB uh s).1 = true then (kH 9 (if (aB iT (aB uh s).2).1 = true then 1 else 0) eB eB [p] [], (dA kZ (aB iT (aB uh s).2).2).2)
  else if (aB iT (aB uh s).2).1 = true then inS K p 1 (aB iT (aB uh s).2).2 else if eF uO (aB iT (aB uh s).2).2 = true then inS K p 0 (aB iT (aB uh s).2).2 else (p, (aB iT (aB uh s).2).2) := by
 show (aB uh >>= fun b => if b = true then _ else _) s = _
 rw [jK]
 by_cases c : (aB uh s).1 = true
 ·rw [if_pos c, if_pos c]; rfl
 ·rw [if_neg c, if_neg c, jK]
  by_cases c2 : (aB iT (aB uh s).2).1 = true
  ·rw [if_pos c2, if_pos c2]
  ·rw [if_neg c2, if_neg c2, tu]
   rfl
theorem aas (K : gG) (x : Tr) (n : Int) (s : Sy) : inS K x n s = (kH 13 n eB eB [x] [(bH K.parts (dA uO s).2).1], (bH K.parts (dA uO s).2).2) := rfl
theorem Ob {K : gG} {d : Int} (hK : JO K r b T d) (hS : Reads (fun _ => True) 6 r b T d 160 [.pointer (some ⟨r, 0, none⟩)] (Aa K)) : Reads (fun _ => True) 6 r b T d 127 [.pointer (some ⟨r, 0, none⟩)] (qR K) := by
 intro σ s he h
 have hlr := h.lr
 have hlb := h.lb
 refine pK Tryz.func127 Tryz.ntmps127 Tryz.results127 fun A hz a0 => ?_
 refine jR a0 ?_
 refine aj (aU a0) ?_
 refine C.mono (hS _ _ trivial (h.kp ((Kp.refl σ).push _))) ?_
 rintro _ σ1 ⟨⟨t1, l1, rfl, hl1, ho1⟩, h1, g1⟩
 have wI := g1.next
 simp only [ah] at wI
 have nN := (g1.get σ.next (by first | omega | (simp only [ah, au]; first | done | omega)) (by omega)).trans aA
 replace g1 := g1.unpush
 have t1 : TE 6 σ1 (fun k => σ.next + 1 ≤ k) (.agg ⟨l1⟩) (Aa K s).1 := ⟨t1, l1, rfl, hl1, ho1⟩
 refine dS a0 hl1 ho1 ?_
 have w2 : ∀ B1 B2 B3 : fZ, Ow σ.next σ1 (((σ1.push B1).set σ1.next B2).push B3) := fun _ _ _ => ((((Ow.refl σ.next σ1).push _).set (by omega) _).push _)
 have e2 : ∀ B1 B2 B3 : fZ, Ks σ1 (((σ1.push B1).set σ1.next B2).push B3) := fun _ _ _ => ((((Ks.refl σ1).push _).set (.inl (Nat.le_refl _)) _).push _)
 have kU : ∀ B1 B2 B3 : fZ, (((σ1.push B1).set σ1.next B2).push B3).get σ.next = _ := fun _ _ _ => by rw [aC (by first | omega | (simp only [ah, au]; first | done | omega)), bG (by omega), aC (by omega), nN]
 have sF : ∀ B1 B2 B3 : fZ, (((σ1.push B1).set σ1.next B2).push B3).get σ1.next = B2 := fun _ _ _ => by rw [aC (by first | omega | (simp only [ah, au]; first | done | omega)), bF]
 refine aj (lF a0 hl1 ho1) ?_
 refine C.mono (uV (ws := [uS, Gj, Gl, Gm, Gn, Gp]) (e := 9) (z := 1) (h1.ow (w2 _ _ _) hlr hlb) (dD) (by first | omega | (simp only [ah, au]; first | done | omega)) (Nat.le_of_ble_eq_true rfl)) ?_
 rintro _ σ3 ⟨rfl, h3, g3⟩
 have Dl := g3.next
 simp only [ah, au] at Dl
 have tq := (g3.get σ.next (by first | omega | (simp only [ah, au]; first | done | omega)) (by omega)).trans (kU _ _ _)
 have rU := (g3.get σ1.next (by first | omega | (simp only [ah, au]; first | done | omega)) (by omega)).trans (sF _ _ _)
 have t3 := (t1.ks (e2 _ _ _)).ks (g3.ks (h1.ow (w2 _ _ _) hlr hlb).ez)
 replace g3 := (g1.ow (w2 _ _ _)).trans g3
 clear w2 e2 kU sF
 rw [cmp_eq]
 generalize (aI [uS, Gj, Gl, Gm, Gn, Gp] (Aa K s).2).2 = s3 at h3 ⊢
 generalize (Aa K s).1 = p1 at t1 t3 ⊢
 cases c3 : (aI [uS, Gj, Gl, Gm, Gn, Gp] (Aa K s).2).1 with
 | some x =>
  simp only [EX, Vr]
  refine jR a0 ?_
  refine bY mixed (by kernel_rfl) (by kernel_rfl) ?_
  refine Ub a0 rU hl1 ?_
  refine bD (aU a0) ?_
  refine C.mono (hS _ _ trivial h3) ?_
  rintro _ σ4 ⟨⟨t4, l4, rfl, hl4, Na⟩, h4, g4⟩
  have Gt := g4.next
  have uG := (g4.get σ.next (by omega) (by omega)).trans tq
  have wL := (g4.get σ1.next (by omega) (by omega)).trans rU
  refine bD (aU a0) ?_
  refine C.mono (Lh (lo := σ.next) (by omega) ((t3.ks (g4.ks h3.ez)).lo (fun k hk => by have := hk; omega)) (TE.lo ⟨t4, l4, rfl, hl4, Na⟩ (fun k hk => by have := hk; omega))) ?_
  rintro _ σ5 ⟨⟨t5, l5, rfl, hl5, Ue⟩, k5⟩
  have BQ := (k5.get σ.next (by omega)).trans uG
  refine XL a0 BQ hl5 Ue ?_
  refine oW [(0, 0), (0, 4)] ?_ ?_
  ·(repeat (refine aO (bg rfl rfl rfl rfl rfl (qx a0 rU wL hl1)) ?_)); exact bn
  refine fQ hl5 ?_
  exact aX ((Ow.refl _ _).set (Nat.le_refl _) _) ((g3.trans g4).kp k5) (h4.kp k5) hlr hlb (TE.ks ⟨t5, l5, rfl, hl5, Ue⟩ ((Ks.refl σ5).set (.inr (by rw [BQ])) _))
 | none =>
  simp only [EX]
  rw [Vs]
  refine jR a0 ?_
  refine aj (aU a0) ?_
  refine C.mono (gV h3 uh) ?_
  rintro _ σ4 ⟨rfl, h4, g4⟩
  have Gt := g4.next
  have uG := (g4.get σ.next (by omega) (by omega)).trans tq
  have wL := (g4.get σ1.next (by omega) (by omega)).trans rU
  have t4 := t3.ks (g4.ks h3.ez)
  replace g4 := g3.trans g4
  generalize (aB uh s3).2 = s4 at h4 ⊢
  cases c4 : (aB uh s3).1 with
  | true =>
   refine jR a0 ?_
   refine iH ?_; simp only [Then, Out, iy, reduceIte, Nat.reduceEqDiff]
   refine jR a0 ?_
   refine aj (aU a0) ?_
   refine C.mono (gV h4 iT) ?_
   rintro _ σ5 ⟨rfl, h5, g5⟩
   have Vt := g5.next
   have BQ := (g5.get σ.next (by omega) (by omega)).trans uG
   have A8 := (g5.get σ1.next (by omega) (by omega)).trans wL
   have t5 := t4.ks (g5.ks h4.ez)
   replace g5 := g4.trans g5
   (try rw [if_pos rfl])
   generalize (aB iT s4).2 = s5 at h5 ⊢
   cases c5 : (aB iT s4).1 with
   | true =>
    refine jR a0 ?_
    refine aj (aU a0) ?_
    refine C.mono (jX h5 kZ) ?_
    rintro _ σ6 ⟨h6, g6⟩
    have nx6 := g6.next
    have Fa := (g6.get σ.next (by omega) (by omega)).trans BQ
    have XO := (g6.get σ1.next (by omega) (by omega)).trans A8
    have t6 := t5.ks (g6.ks h5.ez)
    refine jy a0 Fa XO hl1 ho1 ?_
    refine D7 Fa hl1 ?_
    exact aX (((Ow.refl _ _).push _).set (Nat.le_refl _) _) (g5.trans g6) h6 hlr hlb (iM (jJ (e := 42) (z := 1) (dD) (by decide) (by first | omega | (simp only [ah, au]; first | done | omega)) (by first | omega | (simp only [ah, au]; first | done | omega)) ((t6.ks (((Ks.refl σ6).push _).set (.inr (by rw [Fa])) _)).lo (fun k hk => by have := hk; omega))) (aW _ _ _))
   | false =>
    refine jR a0 ?_
    refine aj (aU a0) ?_
    refine C.mono (jX h5 kZ) ?_
    rintro _ σ6 ⟨h6, g6⟩
    have nx6 := g6.next
    have Fa := (g6.get σ.next (by omega) (by omega)).trans BQ
    have XO := (g6.get σ1.next (by omega) (by omega)).trans A8
    have t6 := t5.ks (g6.ks h5.ez)
    refine jy a0 Fa XO hl1 ho1 ?_
    refine D7 Fa hl1 ?_
    exact aX (((Ow.refl _ _).push _).set (Nat.le_refl _) _) (g5.trans g6) h6 hlr hlb (iM (jJ (e := 42) (z := 1) (dD) (by decide) (by first | omega | (simp only [ah, au]; first | done | omega)) (by first | omega | (simp only [ah, au]; first | done | omega)) ((t6.ks (((Ks.refl σ6).push _).set (.inr (by rw [Fa])) _)).lo (fun k hk => by have := hk; omega))) (aW _ _ _))
  | false =>
   (try rw [if_neg (by simp)])
   refine jR a0 ?_
   refine aj (aU a0) ?_
   refine C.mono (gV h4 iT) ?_
   rintro _ σ5 ⟨rfl, h5, g5⟩
   have Vt := g5.next
   have BQ := (g5.get σ.next (by omega) (by omega)).trans uG
   have A8 := (g5.get σ1.next (by omega) (by omega)).trans wL
   have t5 := t4.ks (g5.ks h4.ez)
   replace g5 := g4.trans g5
   generalize (aB iT s4).2 = s5 at h5 ⊢
   cases c5 : (aB iT s4).1 with
   | true =>
    (try rw [if_pos rfl])
    refine jR a0 ?_
    refine iH ?_; simp only [Then, Out, iy, reduceIte, Nat.reduceEqDiff]
    refine jR a0 ?_
    refine aj (aU a0) ?_
    refine C.mono (jX h5 uO) ?_
    rintro _ σ7 ⟨h7, g7⟩
    have nx7 := g7.next
    have Nb := (g7.get σ.next (by omega) (by omega)).trans BQ
    have Nc := (g7.get σ1.next (by omega) (by omega)).trans A8
    have t7 := t5.ks (g7.ks h5.ez)
    replace g7 := g5.trans g7
    rw [aas]
    refine jR a0 ?_
    refine Vq (ord := [0, 1, 3, 4, 5, 6, 7, 2, 8, 9]) mixed (by kernel_rfl) (by simp only [mV, List.filterMap_cons, List.filterMap_nil, List.getElem?_cons_zero, List.getElem?_cons_succ, Option.map_some, uN, Option.map_none]; rfl) (by kernel_rfl) (by kernel_rfl) (by kernel_rfl) (qj (i := 7) (d := 42) (by kernel_rfl) rfl rfl (by simp only [rD, hz]; decide)) ?_
    refine Ub a0 Nc hl1 ?_
    refine bD (aU a0) ?_
    refine C.mono (E5 (fs := [.pointer (some ⟨r, 0, none⟩)]) (cs := []) cO hK.parts _ _ trivial h7) ?_
    rintro _ σ8 ⟨⟨t8, l8, rfl, hl8, ho8⟩, h8, g8⟩
    have nx8 := g8.next
    have Vp := (g8.get σ.next (by omega) (by omega)).trans Nb
    have XP := (g8.get σ1.next (by omega) (by omega)).trans Nc
    have t9 := t7.ks (g8.ks h7.ez)
    replace g8 := g7.trans g8
    have p1 : ∀ B1 : fZ, (σ8.push B1).get σ1.next = _ := fun _ => (aC (by omega)).trans XP
    have p2 : ∀ B1 B2 : fZ, ((σ8.push B1).push B2).get σ1.next = _ := fun _ _ => (aC (by first | omega | (simp only [ah, au]; first | done | omega))).trans (p1 _)
    have q2 : ∀ B1 B2 : fZ, ((σ8.push B1).push B2).get σ.next = _ := fun _ _ => (aC (by first | omega | (simp only [ah, au]; first | done | omega))).trans ((aC (by first | omega | (simp only [ah, au]; first | done | omega))).trans Vp)
    refine XM a0 hl8 ho8 hl1 ho1 XP p1 (cJ p2 q2) ?_
    refine oW [(1, 0), (1, 6), (1, 7), (1, 8)] ?_ ?_
    ·(repeat (refine aO (bg rfl rfl rfl rfl rfl (D8 a0 Nc XP p1 p2 hl1)) ?_)); exact bn
    refine D7 q2 hl1 ?_
    have e9 : ∀ B1 B2 B3 : fZ, B3.esz = 0 → Ks σ8 (((σ8.push B1).push B2).set σ.next B3) := fun _ _ _ h0 => (((Ks.refl σ8).push _).push _).set (.inr (by rw [Vp])) _
    exact aX ((((Ow.refl _ _).push _).push _).set (Nat.le_refl _) _) g8 h8 hlr hlb (iM (jJ (e := 42) (z := 1) (dD) (by decide) (by first | omega | (simp only [ah, au]; first | done | omega)) (by first | omega | (simp only [ah, au]; first | done | omega)) ((t9.ks (e9 _ _ _ rfl)).lo (fun k hk => by have := hk; omega))) (jJ (e := 61) (z := 1) (dD) (by decide) (by first | omega | (simp only [ah, au]; first | done | omega)) (by first | omega | (simp only [ah, au]; first | done | omega)) (TE.lo (TE.ks ⟨t8, l8, rfl, hl8, ho8⟩ (e9 _ _ _ rfl)) (fun k hk => by have := hk; omega))))
   | false =>
    (try rw [if_neg (by simp)])
    refine jR a0 ?_
    refine aj (aU a0) ?_
    refine C.mono (zh h5 uO) ?_
    rintro _ σ6 ⟨rfl, k6⟩
    have nx6 := k6.next
    have Fa := (k6.get σ.next (by omega)).trans BQ
    have XO := (k6.get σ1.next (by omega)).trans A8
    have t6 := t5.ks k6.ks
    replace h6 := h5.kp k6
    cases c6 : eF uO s5 with
    | true =>
     (try rw [if_pos rfl])
     refine jR a0 ?_
     refine iH ?_; simp only [Then, Out, iy, reduceIte, Nat.reduceEqDiff]
     refine jR a0 ?_
     refine aj (aU a0) ?_
     refine C.mono (jX h6 uO) ?_
     rintro _ σ7 ⟨h7, g7⟩
     have nx7 := g7.next
     have Nb := (g7.get σ.next (by omega) (by omega)).trans Fa
     have Nc := (g7.get σ1.next (by omega) (by omega)).trans XO
     have t7 := t6.ks (g7.ks h6.ez)
     replace g7 := (g5.kp k6).trans g7
     rw [aas]
     refine jR a0 ?_
     refine Vq (ord := [0, 1, 3, 4, 5, 6, 7, 2, 8, 9]) mixed (by kernel_rfl) (by simp only [mV, List.filterMap_cons, List.filterMap_nil, List.getElem?_cons_zero, List.getElem?_cons_succ, Option.map_some, uN, Option.map_none]; rfl) (by kernel_rfl) (by kernel_rfl) (by kernel_rfl) (qj (i := 7) (d := 42) (by kernel_rfl) rfl rfl (by simp only [rD, hz]; decide)) ?_
     refine Ub a0 Nc hl1 ?_
     refine bD (aU a0) ?_
     refine C.mono (E5 (fs := [.pointer (some ⟨r, 0, none⟩)]) (cs := []) cO hK.parts _ _ trivial h7) ?_
     rintro _ σ8 ⟨⟨t8, l8, rfl, hl8, ho8⟩, h8, g8⟩
     have nx8 := g8.next
     have Vp := (g8.get σ.next (by omega) (by omega)).trans Nb
     have XP := (g8.get σ1.next (by omega) (by omega)).trans Nc
     have t9 := t7.ks (g8.ks h7.ez)
     replace g8 := g7.trans g8
     have p1 : ∀ B1 : fZ, (σ8.push B1).get σ1.next = _ := fun _ => (aC (by omega)).trans XP
     have p2 : ∀ B1 B2 : fZ, ((σ8.push B1).push B2).get σ1.next = _ := fun _ _ => (aC (by first | omega | (simp only [ah, au]; first | done | omega))).trans (p1 _)
     have q2 : ∀ B1 B2 : fZ, ((σ8.push B1).push B2).get σ.next = _ := fun _ _ => (aC (by first | omega | (simp only [ah, au]; first | done | omega))).trans ((aC (by first | omega | (simp only [ah, au]; first | done | omega))).trans Vp)
     refine XM a0 hl8 ho8 hl1 ho1 XP p1 (cJ p2 q2) ?_
     refine oW [(1, 0), (1, 6), (1, 7), (1, 8)] ?_ ?_
     ·(repeat (refine aO (bg rfl rfl rfl rfl rfl (D8 a0 Nc XP p1 p2 hl1)) ?_)); exact bn
     refine D7 q2 hl1 ?_
     have e9 : ∀ B1 B2 B3 : fZ, B3.esz = 0 → Ks σ8 (((σ8.push B1).push B2).set σ.next B3) := fun _ _ _ h0 => (((Ks.refl σ8).push _).push _).set (.inr (by rw [Vp])) _
     exact aX ((((Ow.refl _ _).push _).push _).set (Nat.le_refl _) _) g8 h8 hlr hlb (iM (jJ (e := 42) (z := 1) (dD) (by decide) (by first | omega | (simp only [ah, au]; first | done | omega)) (by first | omega | (simp only [ah, au]; first | done | omega)) ((t9.ks (e9 _ _ _ rfl)).lo (fun k hk => by have := hk; omega))) (jJ (e := 61) (z := 1) (dD) (by decide) (by first | omega | (simp only [ah, au]; first | done | omega)) (by first | omega | (simp only [ah, au]; first | done | omega)) (TE.lo (TE.ks ⟨t8, l8, rfl, hl8, ho8⟩ (e9 _ _ _ rfl)) (fun k hk => by have := hk; omega))))
    | false =>
     (try rw [if_neg (by simp)])
     refine jR a0 ?_
     refine iH ?_; simp only [Then, Out, iy, reduceIte, Nat.reduceEqDiff]
     refine jy a0 Fa XO hl1 ho1 ?_
     refine D7 Fa hl1 ?_
     exact aX ((Ow.refl _ _).set (Nat.le_refl _) _) (g5.kp k6) h6 hlr hlb ((t6.ks ((Ks.refl σ6).set (.inr (by rw [Fa])) _)).lo (fun k hk => by have := hk; omega))
end
section
variable {r b : Nat} {T : List Tk}
theorem Ho {E : AW → Prop} (hE : Stable r E) {d : Int} (h0 : 0 ≤ d) (hd : d ≤ 40) {g : Nat} {fs cs : List Value} {m : SM Tr} (hf : d < 40 → Reads E 10 r b T (d + 1) g (fs ++ cs) m) :
  Reads E 10 r b T d 182 [.pointer (some ⟨r, 0, none⟩), .func (.func g) ⟨fs⟩ ⟨cs⟩] (if d = 40 then tooDeep zQ else m) := by
 intro σ s he h
 have hlr := h.lr
 have hlb := h.lb
 obtain ⟨i, h1, hl⟩ := h
 have hr := h1.get
 refine fG Tryz.func182 Tryz.ntmps182 Tryz.results182 fun A hz a0 a1 => ?_
 by_cases hc : d = 40
 ·have c1 : (d == 40) = true := by simp [hc]
  rw [if_pos hc]
  refine dV a0 a1 hr c1 ?_
  refine aj (qx a0 a1 hr c1) ?_
  refine C.mono (rP (b := b) (T := T) (d := d) (s := s) (⟨i, h1.kp ((Kp.refl σ).push _), hl⟩) 9) ?_
  rintro _ σ2 ⟨h2, g2⟩
  have gN : σ2.get σ.next = ⟨1, 61, 0, _⟩ := (g2.get σ.next (Nat.lt_succ_self _) (by omega)).trans aA
  have nx := g2.next
  simp only [ah] at nx
  refine dS a0 a1 gN ?_
  refine fQ gN ?_
  exact aX (((Ow.refl _ _).push _).set (Nat.le_refl _) _) g2.unpush h2 hlr hlb (I9 (aW _ _ _) (aW _ _ _) (aW _ _ _) (aW _ _ _) (aW _ _ _) (aW _ _ _) (aW _ _ _))
 ·have c1 : (d == 40) = false := by simp [hc]
  rw [if_neg hc]
  have hadd : aT .add (.int .i64 d) (.int .i64 1) = some (.int .i64 (d + 1)) := aH (by omega) (by omega)
  have hsub : aT .sub (.int .i64 (d + 1)) (.int .i64 1) = some (.int .i64 d) := by rw [xg (by omega) (by omega)]; congr 2; omega
  refine jy a0 a1 hr c1 hadd ?_
  refine aj (qx a0 a1 hr c1) ?_
  have g1 : ∀ B1 B2 : fZ, Gr r σ ((σ.push B1).set r B2) := fun _ _ => ((Gr.refl r σ).push _).set (.inr rfl) _
  refine C.mono (hf (by omega) _ s (hE _ _ he (g1 _ _)) ⟨i, h1.gr (g1 _ _) h1.li (by rw [bF]), hl⟩) ?_
  rintro _ σ2 ⟨⟨t2, l, rfl, hl2, ho2⟩, h2, g2⟩
  have gN : σ2.get σ.next = ⟨1, 61, 0, _⟩ := (g2.get σ.next (Nat.lt_succ_self _) (by omega)).trans ((bG (by omega)).trans aA)
  have nx := g2.next
  simp only [ah, au] at nx
  obtain ⟨i2, r2, e2⟩ := h2
  have hr2 := r2.get
  refine nH a0 a1 gN hl2 ho2 hr2 hsub ?_
  refine D7 gN hl2 ?_
  refine ⟨TE.ks ⟨t2, l, rfl, hl2, ho2⟩ ((((Ks.refl σ2).push _).set (.inl (Nat.le_refl _)) _).set (.inr (by rw [hr2])) _ |>.set (.inr (by rw [gN])) _) |>.lo (fun k hk => ?_), ⟨i2, r2.gr ((((Gr.refl r σ2).push _).set (.inl (Nat.le_refl _)) _).set (.inr rfl) _) r2.li (by rw [bF]) |>.set (by omega) (by omega) _, e2⟩, ?_⟩
  ·have : σ.next + 1 ≤ k := hk
   omega
  ·exact ((((g1 _ _).trans g2).push _).set (.inl (by omega)) _ |>.set (.inr rfl) _).set (.inl (Nat.le_refl _)) _
theorem Vu {d : Int} {m : SM Tr} (hf : Reads (fun _ => True) 6 r b T d 39 [.pointer (some ⟨r, 0, none⟩), .func (.func 20) ⟨[.pointer (some ⟨r, 0, none⟩)]⟩ ⟨[]⟩] m) : Reads (fun _ => True) 6 r b T d 217 [.pointer (some ⟨r, 0, none⟩)] m := by
 intro σ s he h
 have hlr := h.lr
 have hlb := h.lb
 refine pK Tryz.func217 Tryz.ntmps217 Tryz.results217 fun A hz a0 => ?_
 refine jR a0 ?_
 refine aj (aU a0) ?_
 refine C.mono (hf _ _ trivial (h.kp ((Kp.refl σ).push _))) ?_
 rintro _ σ2 ⟨⟨t2, l, rfl, hl, ho⟩, h2, g2⟩
 have nM := g2.next
 simp only [ah] at nM
 have gN := (g2.get σ.next (by first | omega | (simp only [ah, au]; first | done | omega)) (by omega)).trans aA
 refine dV a0 hl ho gN ?_
 refine fQ hl ?_
 exact aX ((Ow.refl _ _).set (Nat.le_refl _) _) g2.unpush h2 hlr hlb ((TE.ks ⟨t2, l, rfl, hl, ho⟩ ((Ks.refl σ2).set (.inr (by rw [gN])) _)).lo (fun k hk => by have := hk; simp only [ah] at this; omega))
theorem Qj {d : Int} {m : SM Tr} (hf : Reads (fun _ => True) 10 r b T d 182 [.pointer (some ⟨r, 0, none⟩), .func (.func 183) ⟨[.pointer (some ⟨r, 0, none⟩)]⟩ ⟨[]⟩] m) : Reads (fun _ => True) 10 r b T d 163 [.pointer (some ⟨r, 0, none⟩)] m := by
 intro σ s he h
 have hlr := h.lr
 have hlb := h.lb
 refine pK Tryz.func163 Tryz.ntmps163 Tryz.results163 fun A hz a0 => ?_
 refine jR a0 ?_
 refine aj (aU a0) ?_
 refine C.mono (hf _ _ trivial (h.kp ((Kp.refl σ).push _))) ?_
 rintro _ σ2 ⟨⟨t2, l, rfl, hl, ho⟩, h2, g2⟩
 have nM := g2.next
 simp only [ah] at nM
 have gN := (g2.get σ.next (by first | omega | (simp only [ah, au]; first | done | omega)) (by omega)).trans aA
 refine dV a0 hl ho gN ?_
 refine fQ hl ?_
 exact aX ((Ow.refl _ _).set (Nat.le_refl _) _) g2.unpush h2 hlr hlb ((TE.ks ⟨t2, l, rfl, hl, ho⟩ ((Ks.refl σ2).set (.inr (by rw [gN])) _)).lo (fun k hk => by have := hk; simp only [ah] at this; omega))
theorem Lp (x : ByteArray) (s : Sy) : kJ x s = if x = mJ then (4, s) else if x = iU then (5, s) else (if (aB w_all s).1 = true then 3 else 2, (aB w_all s).2) := by
 unfold kJ
 by_cases c : x = mJ
 ·rw [if_pos c, if_pos c]; rfl
 ·rw [if_neg c, if_neg c]
  by_cases c2 : x = iU
  ·rw [if_pos c2, if_pos c2]; rfl
  ·rw [if_neg c2, if_neg c2, jK]
   split <;> rfl
theorem Oc {σ : AW} {s : Sy} {d : Int} (h : lu σ r b T d s) (x : ByteArray) :
  C Tryz.prog 204 [.pointer (some ⟨r, 0, none⟩), .string x] σ fun v σ' => v = .int .i64 (kJ x s).1 ∧ lu σ' r b T d (kJ x s).2 ∧ Gr r σ σ' := by
 rw [Lp]
 refine fG Tryz.func204 Tryz.ntmps204 Tryz.results204 fun A hz a0 a1 => ?_
 by_cases c : x = mJ
 ·have e1 : decide (x = ⟨#[101, 120, 99, 101, 112, 116]⟩) = true := decide_eq_true c
  rw [if_pos c]
  refine dS a0 a1 e1 ?_
  refine dG ?_
  first | exact ⟨rfl, h, Gr.refl r σ⟩ | exact ⟨trivial, h, Gr.refl r σ⟩
 ·have e1 : decide (x = ⟨#[101, 120, 99, 101, 112, 116]⟩) = false := decide_eq_false c
  rw [if_neg c]
  by_cases c2 : x = iU
  ·have e2 : decide (x = ⟨#[105, 110, 116, 101, 114, 115, 101, 99, 116]⟩) = true := decide_eq_true c2
   rw [if_pos c2]
   refine dV a0 a1 e1 e2 ?_
   refine dG ?_
   first | exact ⟨rfl, h, Gr.refl r σ⟩ | exact ⟨trivial, h, Gr.refl r σ⟩
  ·have e2 : decide (x = ⟨#[105, 110, 116, 101, 114, 115, 101, 99, 116]⟩) = false := decide_eq_false c2
   rw [if_neg c2]
   refine dV a0 a1 e1 e2 ?_
   refine aj (bP a0 a1) ?_
   refine C.mono (gV h w_all) ?_
   rintro _ σ2 ⟨rfl, h2, g2⟩
   cases c3 : (aB w_all s).1 with
   | true =>
    refine gQ a0 a1 ?_
    refine dG ?_
    first | exact ⟨rfl, h2, g2⟩ | exact ⟨trivial, h2, g2⟩
   | false =>
    refine gQ a0 a1 ?_
    refine dG ?_
    first | exact ⟨rfl, h2, g2⟩ | exact ⟨trivial, h2, g2⟩
theorem Rx {σ : AW} {D : Nat → Prop} {p : Value} {l : List Value} (h : Rd σ D p (.agg ⟨l⟩)) : ∃ ps, p = .agg ⟨ps⟩ ∧ nG σ D ps l := by
 cases p with
 | bool b => cases (h : _ = _)
 | int k n => cases (h : _ = _)
 | string s => cases (h : _ = _)
 | iface n w =>
  obtain ⟨m, _, hs⟩ := h
  rcases hs with ⟨_, a, c, e⟩ | ⟨b, o, c, k, e, z, cs, e, _⟩ <;> cases e
 | agg a =>
  obtain ⟨ps⟩ := a
  obtain ⟨m, e, h⟩ := jh.1 h
  cases e
  exact ⟨ps, rfl, h⟩
 | _ => exact (h : False).elim
theorem Qk {σ : AW} {D : Nat → Prop} {l : List Value} {x y v : Value} (h : TE 6 σ D (.agg ⟨l⟩) x) (hy : Rd σ D y v) (ho : gu v = true) : TE 7 σ D (.agg ⟨l ++ [v]⟩) (.agg ⟨um x ++ [y]⟩) := by
 obtain ⟨h1, m, e, h2, h3⟩ := h
 cases e
 obtain ⟨ps, rfl, h⟩ := Rx h1
 exact ⟨jh.2 ⟨_, rfl, nG.append h (nG.one hy)⟩, _, rfl, by simp [h2], by simp [h3, ho]⟩
theorem bdI : ∀ {l : List Value}, l.length = 6 → ∀ x : ByteArray, lW Tryz.prog 87 [(0, .agg ⟨l⟩), (1, .string x)] = some (.agg ⟨l ++ [.string x]⟩)
 | [_, _, _, _, _, _], _, _ => by rw [acH]; rfl
theorem bdK : ∀ {l : List Value}, l.length = 6 → ∀ x : Bool, lW Tryz.prog 89 [(0, .agg ⟨l⟩), (1, .bool x)] = some (.agg ⟨l ++ [.bool x]⟩)
 | [_, _, _, _, _, _], _, _ => by rw [acK]; rfl
theorem abk (hW : uo) {K : gG} {d : Int} (hK : JO K r b T d) : Reads (fun _ => True) 7 r b T d 213 [.pointer (some ⟨r, 0, none⟩)] (Hg K) := by
 intro σ s he h
 have hlr := h.lr
 have hlb := h.lb
 refine pK Tryz.func213 Tryz.ntmps213 Tryz.results213 fun A hz a0 => ?_
 refine jR a0 ?_
 refine aj (aU a0) ?_
 refine C.mono (hK.or _ _ trivial (h.kp ((Kp.refl σ).push _))) ?_
 rintro _ σ1 ⟨⟨t1, l1, rfl, hl1, ho1⟩, h1, g1⟩
 have wI := g1.next
 simp only [ah] at wI
 have nN := (g1.get σ.next (by first | omega | (simp only [ah, au]; first | done | omega)) (by omega)).trans aA
 replace g1 := g1.unpush
 have t1 : TE 6 σ1 (fun k => σ.next + 1 ≤ k) (.agg ⟨l1⟩) (K.or s).1 := ⟨t1, l1, rfl, hl1, ho1⟩
 refine dS a0 hl1 ho1 ?_
 refine aj (lF a0 hl1 ho1) ?_
 have w2 : ∀ B1 B2 : fZ, Ow σ.next σ1 ((σ1.push B1).set σ1.next B2) := fun _ _ => (((Ow.refl σ.next σ1).push _).set (by omega) _)
 have e2 : ∀ B1 B2 : fZ, Ks σ1 ((σ1.push B1).set σ1.next B2) := fun _ _ => (((Ks.refl σ1).push _).set (.inl (Nat.le_refl _)) _)
 refine C.mono (jX (h1.ow (w2 _ _) hlr hlb) mM) ?_
 rintro _ σ3 ⟨h3, g3⟩
 have Dl := g3.next
 simp only [ah, au] at Dl
 have tq := (g3.get σ.next (by first | omega | (simp only [ah, au]; first | done | omega)) (by omega)).trans ((bG (by omega)).trans ((aC (by omega)).trans nN))
 have rU := (g3.get σ1.next (by first | omega | (simp only [ah, au]; first | done | omega)) (by omega)).trans bF
 have t3 := (t1.ks (e2 _ _)).ks (g3.ks (h1.ow (w2 _ _) hlr hlb).ez)
 replace g3 := (g1.ow (w2 _ _)).trans g3
 refine jR a0 ?_
 refine bY mixed (by kernel_rfl) (by kernel_rfl) ?_
 refine Ub a0 rU hl1 ?_
 refine bD (aU a0) ?_
 refine C.mono (zi hW h3) ?_
 rintro _ σ4 ⟨rfl, h4, g4⟩
 have Gt := g4.next
 have uG := (g4.get σ.next (by omega) (by omega)).trans tq
 have wL := (g4.get σ1.next (by omega) (by omega)).trans rU
 have t4 := t3.ks (g4.ks h3.ez)
 replace g4 := g3.trans g4
 have hl5 : ∀ v, (l1 ++ [v]).length = 7 := fun v => by simp [hl1]
 have ht5 : ∀ v, (l1 ++ [v]).take 7 = l1 ++ [v] := fun v => List.take_of_length_le (Nat.le_of_eq (hl5 v))
 have Ue : ∀ x, (l1 ++ [Value.string x]).all gu = true := fun v => by simp [ho1, gu]
 refine Uc a0 uG (bdI hl1) hl5 Ue ?_
 refine oW [(0, 0), (0, 3)] ?_ ?_
 ·(repeat (refine aO (bg rfl rfl rfl rfl rfl (qx a0 rU wL hl1)) ?_)); exact bn
 refine D7 hl5 ht5 ?_
 exact aX ((Ow.refl _ _).set (Nat.le_refl _) _) g4 h4 hlr hlb (Qk ((t4.ks ((Ks.refl σ4).set (.inr (by rw [uG])) _)).lo (fun k hk => by have := hk; omega)) (jQ.2 rfl) rfl)
theorem ac9 {K : gG} {d : Int} (hK : JO K r b T d) : Reads (fun _ => True) 7 r b T d 220 [.pointer (some ⟨r, 0, none⟩)] (keyS K) := by
 intro σ s he h
 have hlr := h.lr
 have hlb := h.lb
 refine pK Tryz.func220 Tryz.ntmps220 Tryz.results220 fun A hz a0 => ?_
 refine jR a0 ?_
 refine aj (aU a0) ?_
 refine C.mono (hK.or _ _ trivial (h.kp ((Kp.refl σ).push _))) ?_
 rintro _ σ1 ⟨⟨t1, l1, rfl, hl1, ho1⟩, h1, g1⟩
 have wI := g1.next
 simp only [ah] at wI
 have nN := (g1.get σ.next (by first | omega | (simp only [ah, au]; first | done | omega)) (by omega)).trans aA
 replace g1 := g1.unpush
 have t1 : TE 6 σ1 (fun k => σ.next + 1 ≤ k) (.agg ⟨l1⟩) (K.or s).1 := ⟨t1, l1, rfl, hl1, ho1⟩
 refine dS a0 hl1 ho1 ?_
 refine bY mixed (by kernel_rfl) (by kernel_rfl) ?_
 have w2 : ∀ B1 B2 : fZ, Ow σ.next σ1 ((σ1.push B1).set σ1.next B2) := fun _ _ => (((Ow.refl σ.next σ1).push _).set (by omega) _)
 have e2 : ∀ B1 B2 : fZ, Ks σ1 ((σ1.push B1).set σ1.next B2) := fun _ _ => (((Ks.refl σ1).push _).set (.inl (Nat.le_refl _)) _)
 refine gT2 a0 hl1 ?_
 refine bD (aU a0) ?_
 refine C.mono (gV (h1.ow (w2 _ _) hlr hlb) BA) ?_
 rintro _ σ4 ⟨rfl, h4, g4⟩
 have Gt := g4.next
 simp only [ah, au] at Gt
 have uG := (g4.get σ.next (by first | omega | (simp only [ah, au]; first | done | omega)) (by omega)).trans ((bG (by omega)).trans ((aC (by omega)).trans nN))
 have wL := (g4.get σ1.next (by first | omega | (simp only [ah, au]; first | done | omega)) (by omega)).trans bF
 have t4 := (t1.ks (e2 _ _)).ks (g4.ks (h1.ow (w2 _ _) hlr hlb).ez)
 replace g4 := (g1.ow (w2 _ _)).trans g4
 have hl5 : ∀ v, (l1 ++ [v]).length = 7 := fun v => by simp [hl1]
 have ht5 : ∀ v, (l1 ++ [v]).take 7 = l1 ++ [v] := fun v => List.take_of_length_le (Nat.le_of_eq (hl5 v))
 have Ue : ∀ x, (l1 ++ [Value.bool x]).all gu = true := fun v => by simp [ho1, gu]
 refine Uc a0 uG (bdK hl1) hl5 Ue ?_
 refine oW [(0, 0), (0, 3)] ?_ ?_
 ·(repeat (refine aO (bg rfl rfl rfl rfl rfl (lF a0 wL hl1)) ?_)); exact bn
 refine D7 hl5 ht5 ?_
 exact aX ((Ow.refl _ _).set (Nat.le_refl _) _) g4 h4 hlr hlb (Qk ((t4.ks ((Ks.refl σ4).set (.inr (by rw [uG])) _)).lo (fun k hk => by have := hk; omega)) (sW.2 rfl) rfl)
end
end Go.Proofs.YthogkmcahnkkoaaGreatDoor
