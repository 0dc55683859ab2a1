/- The program's reader: comparisons. The program's reader: queries. The program's reader: sources of rows. The program's reader: joins of sources. -/
import Derived.Test.YtckidlbmoalomaaGreatDoorJ09


namespace Go.Proofs.YtckidlbmoalomaaGreatDoor
open Go.RowKit
set_option maxRecDepth 10000
set_option linter.unusedSimpArgs false
set_option linter.unusedVariables false

section
variable {r b : Nat} {T : List Tk}
theorem W_regL {P : Program} {A : Fr} {σ : AW} {id : Nat} {l all : List Oper} {ord : List Nat} {Q : Exit → Fr → AW → Prop} (hm : P.follows .mixedOrders = true) (hord : lateOrd l = ord) (hall : permOps l ord = all) (hp : permOK l ord = true) (hw : within l = true) (hok : regOK all = true) (hff : floatFit all (floatAt all (ancL [] all)) A = true)
    (h : OpsV P all 0 all [] [(0, σ)] A σ (fun pd st A' σ' => (∀ p ∈ owes all (ancL [] all) (floatAt all (ancL [] all)), OwedV P all pd st p) ∧ Q .normal A' σ')) : W P (.region id l.toArray true) A σ Q := by
  subst hord
  exact W_drawnVL hm hall hp hw hok hff h
theorem floatFit_by {A : Fr} {all : List Oper} {i d : Nat} {o : Oper} (h1 : floatAt all (ancL [] all) = i) (h2 : all[i]? = some o) (h3 : o.dst = some d) (h4 : d < A.size) : floatFit all (floatAt all (ancL [] all)) A = true := by
  unfold floatFit
  rw [h1, h2]
  simp only [h3]
  unfold Fr.get
  rw [show Nat.blt d A.size = true from Nat.ble_eq_true_of_le h4]
  rfl
def cmpRest (K : Knot) (x : Tr) (o : Option ByteArray) : SM Tr := do
  match o with
  | some mark => do
    let y ← sumS K
    pure (binS x mark y)
  | none => do
    if ← takeS w_is then do
      let n ← takeS w_not
      wantS w_null
      pure (mkE 9 (if n then 1 else 0) eB eB [x] [])
    else if ← takeS w_not then inS K x 1
    else if ← seesS w_in then inS K x 0
    else pure x
theorem cmp_eq (K : Knot) (s : Sy) : comparedS K s = cmpRest K (sumS K s).1 (takeAnyS [m_eq, m_ne, m_lt, m_le, m_gt, m_ge] (sumS K s).2).1 (takeAnyS [m_eq, m_ne, m_lt, m_le, m_gt, m_ge] (sumS K s).2).2 := rfl
theorem cmp_some (K : Knot) (p : Tr) (x : ByteArray) (s : Sy) : cmpRest K p (some x) s = (binS p x (sumS K s).1, (sumS K s).2) := rfl
theorem cmp_none (K : Knot) (p : Tr) (s : Sy) : cmpRest K p none s = if (takeS w_is s).1 = true then (mkE 9 (if (takeS w_not (takeS w_is s).2).1 = true then 1 else 0) eB eB [p] [], (wantS w_null (takeS w_not (takeS w_is s).2).2).2)
    else if (takeS w_not (takeS w_is s).2).1 = true then inS K p 1 (takeS w_not (takeS w_is s).2).2 else if seesB w_in (takeS w_not (takeS w_is s).2).2 = true then inS K p 0 (takeS w_not (takeS w_is s).2).2 else (p, (takeS w_not (takeS w_is s).2).2) := by
  show (takeS w_is >>= fun b => if b = true then _ else _) s = _
  rw [take_eq]
  by_cases c : (takeS w_is s).1 = true
  · rw [if_pos c, if_pos c]; rfl
  · rw [if_neg c, if_neg c, take_eq]
    by_cases c2 : (takeS w_not (takeS w_is s).2).1 = true
    · rw [if_pos c2, if_pos c2]
    · rw [if_neg c2, if_neg c2, sees_eq]
      rfl
theorem in_eq (K : Knot) (x : Tr) (n : Int) (s : Sy) : inS K x n s = (mkE 13 n eB eB [x] [(inBracketsS K.parts (wantS w_in s).2).1], (inBracketsS K.parts (wantS w_in s).2).2) := rfl
theorem compared_c {K : Knot} {d : Int} (hK : KOK K r b T d) (hS : Reads (fun _ => True) 6 r b T d 108 [.pointer (some ⟨r, 0, none⟩)] (sumS K)) : Reads (fun _ => True) 6 r b T d 93 [.pointer (some ⟨r, 0, none⟩)] (comparedS K) := by
  intro σ s he h
  have hlr := h.lr
  have hlb := h.lb
  refine C_enter rfl Tryz.func93 rfl Tryz.ntmps93 Tryz.results93 (Nat.le_of_ble_eq_true rfl) ?_; intro A hz hA; have a0 := hA 0 _ rfl; clear hA
  repeat (first | apply s_R | apply o_n | ((first | apply o_p | (refine' o_g rfl rfl ?_ ?_; rotate_left) | apply w_c); (focus simp (disch := first | decide | (try simp only [zz, hz]) <;> omega | fail) only [go_sem, hz, a0] <;> rfl); with_reducible first | apply o_i | apply g_1 | apply g_2 | apply g_3 | apply g_4 | apply c_1 | apply c_2) | apply r_E | apply b_k | apply s_k | apply s_q)
  refine O_call (by simp (disch := first | decide | (try simp only [zz, hz]) <;> omega | fail) only [go_sem, hz, a0] <;> rfl) ?_
  refine C.mono (hS _ _ trivial (h.kp ((Kp.refl σ).push _))) ?_
  rintro _ σ1 ⟨⟨t1, l1, rfl, hl1, ho1⟩, h1, g1⟩
  have nx1 := g1.next
  simp only [push_next] at nx1
  have gN1 := (g1.get σ.next (by first | omega | (simp only [push_next, set_next]; first | done | omega)) (by omega)).trans push_eq
  replace g1 := g1.unpush
  have t1 : TE 6 σ1 (fun k => σ.next + 1 ≤ k) (.agg ⟨l1⟩) (sumS K s).1 := ⟨t1, l1, rfl, hl1, ho1⟩
  repeat (first | apply s_R | apply o_n | ((first | apply o_p | (refine' o_g rfl rfl ?_ ?_; rotate_left) | apply w_c); (focus simp (disch := first | decide | (try simp only [zz, hz]) <;> omega | fail) only [go_sem, hz, a0, hl1, ho1] <;> rfl); with_reducible first | apply o_i | apply g_1 | apply g_2 | apply g_3 | apply g_4 | apply c_1 | apply c_2) | apply r_E | apply b_k | apply s_k | apply s_q)
  have w2 : ∀ B1 B2 B3 : Blk, Ow σ.next σ1 (((σ1.push B1).set σ1.next B2).push B3) := fun _ _ _ => ((((Ow.refl σ.next σ1).push _).set (by omega) _).push _)
  have e2 : ∀ B1 B2 B3 : Blk, Ks σ1 (((σ1.push B1).set σ1.next B2).push B3) := fun _ _ _ => ((((Ks.refl σ1).push _).set (.inl (Nat.le_refl _)) _).push _)
  have gN2 : ∀ B1 B2 B3 : Blk, (((σ1.push B1).set σ1.next B2).push B3).get σ.next = _ := fun _ _ _ => by rw [push_ne (by first | omega | (simp only [push_next, set_next]; first | done | omega)), set_ne (by omega), push_ne (by omega), gN1]
  have gM2 : ∀ B1 B2 B3 : Blk, (((σ1.push B1).set σ1.next B2).push B3).get σ1.next = B2 := fun _ _ _ => by rw [push_ne (by first | omega | (simp only [push_next, set_next]; first | done | omega)), set_eq]
  refine O_call (by simp (disch := first | decide | (try simp only [zz, hz]) <;> omega | fail) only [go_sem, hz, a0, hl1, ho1] <;> rfl) ?_
  refine C.mono (takeAny_c (ws := [m_eq, m_ne, m_lt, m_le, m_gt, m_ge]) (e := 9) (z := 1) (h1.ow (w2 _ _ _) hlr hlb) (by simp (disch := first | decide | (try simp only [zz, hz]) <;> omega | fail) only [go_sem, hz] <;> rfl) (by first | omega | (simp only [push_next, set_next]; first | done | omega)) (Nat.le_of_ble_eq_true rfl)) ?_
  rintro _ σ3 ⟨rfl, h3, g3⟩
  have nx3 := g3.next
  simp only [push_next, set_next] at nx3
  have gN3 := (g3.get σ.next (by first | omega | (simp only [push_next, set_next]; first | done | omega)) (by omega)).trans (gN2 _ _ _)
  have gM3 := (g3.get σ1.next (by first | omega | (simp only [push_next, set_next]; first | done | omega)) (by omega)).trans (gM2 _ _ _)
  have t3 := (t1.ks (e2 _ _ _)).ks (g3.ks (h1.ow (w2 _ _ _) hlr hlb).ez)
  replace g3 := (g1.ow (w2 _ _ _)).trans g3
  clear w2 e2 gN2 gM2
  rw [cmp_eq]
  generalize (takeAnyS [m_eq, m_ne, m_lt, m_le, m_gt, m_ge] (sumS K s).2).2 = s3 at h3 ⊢
  generalize (sumS K s).1 = p1 at t1 t3 ⊢
  cases c3 : (takeAnyS [m_eq, m_ne, m_lt, m_le, m_gt, m_ge] (sumS K s).2).1 with
  | some x =>
    simp only [anyV, cmp_some]
    repeat (first | apply s_R | apply o_n | ((first | apply o_p | (refine' o_g rfl rfl ?_ ?_; rotate_left) | apply w_c); (focus simp (disch := first | decide | (try simp only [zz, hz]) <;> omega | fail) only [go_sem, hz, a0] <;> rfl); with_reducible first | apply o_i | apply g_1 | apply g_2 | apply g_3 | apply g_4 | apply c_1 | apply c_2) | apply r_E | apply b_k | apply s_k | apply s_q)
    refine W_regDE mixed (by kernel_rfl) (by kernel_rfl) ?_
    repeat (apply v_x; (focus simp (disch := first | decide | (try simp only [zz, hz]) <;> omega | fail) only [go_sem, hz, a0, gM3, hl1] <;> rfl); first | refine vX_n ?_ | refine vX_l ?_ | refine vX_e ?_)
    refine V_call (by simp (disch := first | decide | (try simp only [zz, hz]) <;> omega | fail) only [go_sem, hz, a0] <;> rfl) ?_
    refine C.mono (hS _ _ trivial h3) ?_
    rintro _ σ4 ⟨⟨t4, l4, rfl, hl4, ho4⟩, h4, g4⟩
    have nx4 := g4.next
    have gN4 := (g4.get σ.next (by omega) (by omega)).trans gN3
    have gM4 := (g4.get σ1.next (by omega) (by omega)).trans gM3
    refine V_call (by simp (disch := first | decide | (try simp only [zz, hz]) <;> omega | fail) only [go_sem, hz, a0] <;> rfl) ?_
    refine C.mono (binary_c (lo := σ.next) (by omega) ((t3.ks (g4.ks h3.ez)).lo (fun k hk => by have := hk; omega)) (TE.lo ⟨t4, l4, rfl, hl4, ho4⟩ (fun k hk => by have := hk; omega))) ?_
    rintro _ σ5 ⟨⟨t5, l5, rfl, hl5, ho5⟩, k5⟩
    have gN5 := (k5.get σ.next (by omega)).trans gN4
    repeat (apply v_x; (focus simp (disch := first | decide | (try simp only [zz, hz]) <;> omega | fail) only [go_sem, hz, a0, gN5, hl5, ho5] <;> rfl); first | refine vX_n ?_ | refine vX_l ?_ | refine vX_e ?_)
    refine V_nil ?_; refine And.intro (owes_by (L := [(0, 0), (0, 4)]) ?_ ?_) ?_; rotate_left 2; (try simp only [Then, Out, JumpL]); rotate_right 2; focus (kernel_rfl)
    · (repeat (refine owe_cons (Owed_op rfl rfl rfl rfl rfl (by simp (disch := first | decide | (try simp only [zz, hz]) <;> omega | fail) only [go_sem, hz, a0, gM3, gM4, hl1] <;> rfl)) ?_)); exact owe_nil
    refine W_ret ?_; (try simp only [Then, Out, Jump, JumpL]); refine ret_mk (by simp (disch := first | decide | (try simp only [zz, hz]) <;> omega | fail) only [go_sem, hz, hl5] <;> rfl) ?_; (try simp only [resultA])
    exact post_fin ((Ow.refl _ _).set (Nat.le_refl _) _) ((g3.trans g4).kp k5) (h4.kp k5) hlr hlb (TE.ks ⟨t5, l5, rfl, hl5, ho5⟩ ((Ks.refl σ5).set (.inr (by rw [gN5])) _))
  | none =>
    simp only [anyV]
    rw [cmp_none]
    repeat (first | apply s_R | apply o_n | ((first | apply o_p | (refine' o_g rfl rfl ?_ ?_; rotate_left) | apply w_c); (focus simp (disch := first | decide | (try simp only [zz, hz]) <;> omega | fail) only [go_sem, hz, a0] <;> rfl); with_reducible first | apply o_i | apply g_1 | apply g_2 | apply g_3 | apply g_4 | apply c_1 | apply c_2) | apply r_E | apply b_k | apply s_k | apply s_q)
    refine O_call (by simp (disch := first | decide | (try simp only [zz, hz]) <;> omega | fail) only [go_sem, hz, a0] <;> rfl) ?_
    refine C.mono (take_c h3 w_is) ?_
    rintro _ σ4 ⟨rfl, h4, g4⟩
    have nx4 := g4.next
    have gN4 := (g4.get σ.next (by omega) (by omega)).trans gN3
    have gM4 := (g4.get σ1.next (by omega) (by omega)).trans gM3
    have t4 := t3.ks (g4.ks h3.ez)
    replace g4 := g3.trans g4
    generalize (takeS w_is s3).2 = s4 at h4 ⊢
    cases c4 : (takeS w_is s3).1 with
    | true =>
      repeat (first | apply s_R | apply o_n | ((first | apply o_p | (refine' o_g rfl rfl ?_ ?_; rotate_left) | apply w_c); (focus simp (disch := first | decide | (try simp only [zz, hz]) <;> omega | fail) only [go_sem, hz, a0] <;> rfl); with_reducible first | apply o_i | apply g_1 | apply g_2 | apply g_3 | apply g_4 | apply c_1 | apply c_2) | apply r_E | apply b_k | apply s_k | apply s_q)
      refine W_exit ?_; simp only [Then, Out, JumpL, reduceIte, Nat.reduceEqDiff]
      repeat (first | apply s_R | apply o_n | ((first | apply o_p | (refine' o_g rfl rfl ?_ ?_; rotate_left) | apply w_c); (focus simp (disch := first | decide | (try simp only [zz, hz]) <;> omega | fail) only [go_sem, hz, a0] <;> rfl); with_reducible first | apply o_i | apply g_1 | apply g_2 | apply g_3 | apply g_4 | apply c_1 | apply c_2) | apply r_E | apply b_k | apply s_k | apply s_q)
      refine O_call (by simp (disch := first | decide | (try simp only [zz, hz]) <;> omega | fail) only [go_sem, hz, a0] <;> rfl) ?_
      refine C.mono (take_c h4 w_not) ?_
      rintro _ σ5 ⟨rfl, h5, g5⟩
      have nx5 := g5.next
      have gN5 := (g5.get σ.next (by omega) (by omega)).trans gN4
      have gM5 := (g5.get σ1.next (by omega) (by omega)).trans gM4
      have t5 := t4.ks (g5.ks h4.ez)
      replace g5 := g4.trans g5
      (try rw [if_pos rfl])
      generalize (takeS w_not s4).2 = s5 at h5 ⊢
      cases c5 : (takeS w_not s4).1 with
      | true =>
        repeat (first | apply s_R | apply o_n | ((first | apply o_p | (refine' o_g rfl rfl ?_ ?_; rotate_left) | apply w_c); (focus simp (disch := first | decide | (try simp only [zz, hz]) <;> omega | fail) only [go_sem, hz, a0] <;> rfl); with_reducible first | apply o_i | apply g_1 | apply g_2 | apply g_3 | apply g_4 | apply c_1 | apply c_2) | apply r_E | apply b_k | apply s_k | apply s_q)
        refine O_call (by simp (disch := first | decide | (try simp only [zz, hz]) <;> omega | fail) only [go_sem, hz, a0] <;> rfl) ?_
        refine C.mono (want_c h5 w_null) ?_
        rintro _ σ6 ⟨h6, g6⟩
        have nx6 := g6.next
        have gN6 := (g6.get σ.next (by omega) (by omega)).trans gN5
        have gM6 := (g6.get σ1.next (by omega) (by omega)).trans gM5
        have t6 := t5.ks (g6.ks h5.ez)
        repeat (first | apply s_R | apply o_n | ((first | apply o_p | (refine' o_g rfl rfl ?_ ?_; rotate_left) | apply w_c); (focus simp (disch := first | decide | (try simp only [zz, hz]) <;> omega | fail) only [go_sem, hz, a0, gN6, gM6, hl1, ho1] <;> rfl); with_reducible first | apply o_i | apply g_1 | apply g_2 | apply g_3 | apply g_4 | apply c_1 | apply c_2) | apply r_E | apply b_k | apply s_k | apply s_q)
        refine W_ret ?_; (try simp only [Then, Out, Jump, JumpL]); refine ret_mk (by simp (disch := first | decide | (try simp only [zz, hz]) <;> omega | fail) only [go_sem, hz, gN6, hl1] <;> rfl) ?_; (try simp only [resultA])
        exact post_fin (((Ow.refl _ _).push _).set (Nat.le_refl _) _) (g5.trans g6) h6 hlr hlb (te_mkE (rd_lit1 (e := 37) (z := 1) (by simp (disch := first | decide | (try simp only [zz, hz]) <;> omega | fail) only [go_sem, hz] <;> rfl) (by decide) (by first | omega | (simp only [push_next, set_next]; first | done | omega)) (by first | omega | (simp only [push_next, set_next]; first | done | omega)) ((t6.ks (((Ks.refl σ6).push _).set (.inr (by rw [gN6])) _)).lo (fun k hk => by have := hk; omega))) (rd_nil _ _ _))
      | false =>
        repeat (first | apply s_R | apply o_n | ((first | apply o_p | (refine' o_g rfl rfl ?_ ?_; rotate_left) | apply w_c); (focus simp (disch := first | decide | (try simp only [zz, hz]) <;> omega | fail) only [go_sem, hz, a0] <;> rfl); with_reducible first | apply o_i | apply g_1 | apply g_2 | apply g_3 | apply g_4 | apply c_1 | apply c_2) | apply r_E | apply b_k | apply s_k | apply s_q)
        refine O_call (by simp (disch := first | decide | (try simp only [zz, hz]) <;> omega | fail) only [go_sem, hz, a0] <;> rfl) ?_
        refine C.mono (want_c h5 w_null) ?_
        rintro _ σ6 ⟨h6, g6⟩
        have nx6 := g6.next
        have gN6 := (g6.get σ.next (by omega) (by omega)).trans gN5
        have gM6 := (g6.get σ1.next (by omega) (by omega)).trans gM5
        have t6 := t5.ks (g6.ks h5.ez)
        repeat (first | apply s_R | apply o_n | ((first | apply o_p | (refine' o_g rfl rfl ?_ ?_; rotate_left) | apply w_c); (focus simp (disch := first | decide | (try simp only [zz, hz]) <;> omega | fail) only [go_sem, hz, a0, gN6, gM6, hl1, ho1] <;> rfl); with_reducible first | apply o_i | apply g_1 | apply g_2 | apply g_3 | apply g_4 | apply c_1 | apply c_2) | apply r_E | apply b_k | apply s_k | apply s_q)
        refine W_ret ?_; (try simp only [Then, Out, Jump, JumpL]); refine ret_mk (by simp (disch := first | decide | (try simp only [zz, hz]) <;> omega | fail) only [go_sem, hz, gN6, hl1] <;> rfl) ?_; (try simp only [resultA])
        exact post_fin (((Ow.refl _ _).push _).set (Nat.le_refl _) _) (g5.trans g6) h6 hlr hlb (te_mkE (rd_lit1 (e := 37) (z := 1) (by simp (disch := first | decide | (try simp only [zz, hz]) <;> omega | fail) only [go_sem, hz] <;> rfl) (by decide) (by first | omega | (simp only [push_next, set_next]; first | done | omega)) (by first | omega | (simp only [push_next, set_next]; first | done | omega)) ((t6.ks (((Ks.refl σ6).push _).set (.inr (by rw [gN6])) _)).lo (fun k hk => by have := hk; omega))) (rd_nil _ _ _))
    | false =>
      (try rw [if_neg (by simp)])
      repeat (first | apply s_R | apply o_n | ((first | apply o_p | (refine' o_g rfl rfl ?_ ?_; rotate_left) | apply w_c); (focus simp (disch := first | decide | (try simp only [zz, hz]) <;> omega | fail) only [go_sem, hz, a0] <;> rfl); with_reducible first | apply o_i | apply g_1 | apply g_2 | apply g_3 | apply g_4 | apply c_1 | apply c_2) | apply r_E | apply b_k | apply s_k | apply s_q)
      refine O_call (by simp (disch := first | decide | (try simp only [zz, hz]) <;> omega | fail) only [go_sem, hz, a0] <;> rfl) ?_
      refine C.mono (take_c h4 w_not) ?_
      rintro _ σ5 ⟨rfl, h5, g5⟩
      have nx5 := g5.next
      have gN5 := (g5.get σ.next (by omega) (by omega)).trans gN4
      have gM5 := (g5.get σ1.next (by omega) (by omega)).trans gM4
      have t5 := t4.ks (g5.ks h4.ez)
      replace g5 := g4.trans g5
      generalize (takeS w_not s4).2 = s5 at h5 ⊢
      cases c5 : (takeS w_not s4).1 with
      | true =>
        (try rw [if_pos rfl])
        repeat (first | apply s_R | apply o_n | ((first | apply o_p | (refine' o_g rfl rfl ?_ ?_; rotate_left) | apply w_c); (focus simp (disch := first | decide | (try simp only [zz, hz]) <;> omega | fail) only [go_sem, hz, a0] <;> rfl); with_reducible first | apply o_i | apply g_1 | apply g_2 | apply g_3 | apply g_4 | apply c_1 | apply c_2) | apply r_E | apply b_k | apply s_k | apply s_q)
        refine W_exit ?_; simp only [Then, Out, JumpL, reduceIte, Nat.reduceEqDiff]
        repeat (first | apply s_R | apply o_n | ((first | apply o_p | (refine' o_g rfl rfl ?_ ?_; rotate_left) | apply w_c); (focus simp (disch := first | decide | (try simp only [zz, hz]) <;> omega | fail) only [go_sem, hz, a0] <;> rfl); with_reducible first | apply o_i | apply g_1 | apply g_2 | apply g_3 | apply g_4 | apply c_1 | apply c_2) | apply r_E | apply b_k | apply s_k | apply s_q)
        refine O_call (by simp (disch := first | decide | (try simp only [zz, hz]) <;> omega | fail) only [go_sem, hz, a0] <;> rfl) ?_
        refine C.mono (want_c h5 w_in) ?_
        rintro _ σ7 ⟨h7, g7⟩
        have nx7 := g7.next
        have gN7 := (g7.get σ.next (by omega) (by omega)).trans gN5
        have gM7 := (g7.get σ1.next (by omega) (by omega)).trans gM5
        have t7 := t5.ks (g7.ks h5.ez)
        replace g7 := g5.trans g7
        rw [in_eq]
        repeat (first | apply s_R | apply o_n | ((first | apply o_p | (refine' o_g rfl rfl ?_ ?_; rotate_left) | apply w_c); (focus simp (disch := first | decide | (try simp only [zz, hz]) <;> omega | fail) only [go_sem, hz, a0] <;> rfl); with_reducible first | apply o_i | apply g_1 | apply g_2 | apply g_3 | apply g_4 | apply c_1 | apply c_2) | apply r_E | apply b_k | apply s_k | apply s_q)
        refine W_regL (ord := [0, 1, 3, 4, 5, 6, 7, 2, 8, 9]) mixed (by kernel_rfl) (by simp only [permOps, List.filterMap_cons, List.filterMap_nil, List.getElem?_cons_zero, List.getElem?_cons_succ, Option.map_some, renum, Option.map_none]; rfl) (by kernel_rfl) (by kernel_rfl) (by kernel_rfl) (floatFit_by (i := 7) (d := 42) (by kernel_rfl) rfl rfl (by simp only [put_size, hz]; decide)) ?_
        repeat (apply v_x; (focus simp (disch := first | decide | (try simp only [zz, hz]) <;> omega | fail) only [go_sem, hz, a0, gM7, hl1] <;> rfl); first | refine vX_n ?_ | refine vX_l ?_ | refine vX_e ?_)
        refine V_call (by simp (disch := first | decide | (try simp only [zz, hz]) <;> omega | fail) only [go_sem, hz, a0] <;> rfl) ?_
        refine C.mono (inbQ_c (fs := [.pointer (some ⟨r, 0, none⟩)]) (cs := []) stable_true hK.parts _ _ trivial h7) ?_
        rintro _ σ8 ⟨⟨t8, l8, rfl, hl8, ho8⟩, h8, g8⟩
        have nx8 := g8.next
        have gN8 := (g8.get σ.next (by omega) (by omega)).trans gN7
        have gM8 := (g8.get σ1.next (by omega) (by omega)).trans gM7
        have t9 := t7.ks (g8.ks h7.ez)
        replace g8 := g7.trans g8
        have p1 : ∀ B1 : Blk, (σ8.push B1).get σ1.next = _ := fun _ => (push_ne (by omega)).trans gM8
        have p2 : ∀ B1 B2 : Blk, ((σ8.push B1).push B2).get σ1.next = _ := fun _ _ => (push_ne (by first | omega | (simp only [push_next, set_next]; first | done | omega))).trans (p1 _)
        have q2 : ∀ B1 B2 : Blk, ((σ8.push B1).push B2).get σ.next = _ := fun _ _ => (push_ne (by first | omega | (simp only [push_next, set_next]; first | done | omega))).trans ((push_ne (by first | omega | (simp only [push_next, set_next]; first | done | omega))).trans gN8)
        repeat (apply v_x; (focus simp (disch := first | decide | (try simp only [zz, hz]) <;> omega | fail) only [go_sem, hz, a0, hl8, ho8, hl1, ho1, gM8, p1, p2, q2] <;> rfl); first | refine vX_n ?_ | refine vX_l ?_ | refine vX_e ?_)
        refine V_nil ?_; refine And.intro (owes_by (L := [(1, 0), (1, 6), (1, 7), (1, 8)]) ?_ ?_) ?_; rotate_left 2; (try simp only [Then, Out, JumpL]); rotate_right 2; focus (kernel_rfl)
        · (repeat (refine owe_cons (Owed_op rfl rfl rfl rfl rfl (by simp (disch := first | decide | (try simp only [zz, hz]) <;> omega | fail) only [go_sem, hz, a0, gM7, gM8, p1, p2, hl1] <;> rfl)) ?_)); exact owe_nil
        refine W_ret ?_; (try simp only [Then, Out, Jump, JumpL]); refine ret_mk (by simp (disch := first | decide | (try simp only [zz, hz]) <;> omega | fail) only [go_sem, hz, q2, hl1] <;> rfl) ?_; (try simp only [resultA])
        have e9 : ∀ B1 B2 B3 : Blk, B3.esz = 0 → Ks σ8 (((σ8.push B1).push B2).set σ.next B3) := fun _ _ _ h0 => (((Ks.refl σ8).push _).push _).set (.inr (by rw [gN8])) _
        exact post_fin ((((Ow.refl _ _).push _).push _).set (Nat.le_refl _) _) g8 h8 hlr hlb (te_mkE (rd_lit1 (e := 37) (z := 1) (by simp (disch := first | decide | (try simp only [zz, hz]) <;> omega | fail) only [go_sem, hz] <;> rfl) (by decide) (by first | omega | (simp only [push_next, set_next]; first | done | omega)) (by first | omega | (simp only [push_next, set_next]; first | done | omega)) ((t9.ks (e9 _ _ _ rfl)).lo (fun k hk => by have := hk; omega))) (rd_lit1 (e := 44) (z := 1) (by simp (disch := first | decide | (try simp only [zz, hz]) <;> omega | fail) only [go_sem, hz] <;> rfl) (by decide) (by first | omega | (simp only [push_next, set_next]; first | done | omega)) (by first | omega | (simp only [push_next, set_next]; first | done | omega)) (TE.lo (TE.ks ⟨t8, l8, rfl, hl8, ho8⟩ (e9 _ _ _ rfl)) (fun k hk => by have := hk; omega))))
      | false =>
        (try rw [if_neg (by simp)])
        repeat (first | apply s_R | apply o_n | ((first | apply o_p | (refine' o_g rfl rfl ?_ ?_; rotate_left) | apply w_c); (focus simp (disch := first | decide | (try simp only [zz, hz]) <;> omega | fail) only [go_sem, hz, a0] <;> rfl); with_reducible first | apply o_i | apply g_1 | apply g_2 | apply g_3 | apply g_4 | apply c_1 | apply c_2) | apply r_E | apply b_k | apply s_k | apply s_q)
        refine O_call (by simp (disch := first | decide | (try simp only [zz, hz]) <;> omega | fail) only [go_sem, hz, a0] <;> rfl) ?_
        refine C.mono (sees_s h5 w_in) ?_
        rintro _ σ6 ⟨rfl, k6⟩
        have nx6 := k6.next
        have gN6 := (k6.get σ.next (by omega)).trans gN5
        have gM6 := (k6.get σ1.next (by omega)).trans gM5
        have t6 := t5.ks k6.ks
        replace h6 := h5.kp k6
        cases c6 : seesB w_in s5 with
        | true =>
          (try rw [if_pos rfl])
          repeat (first | apply s_R | apply o_n | ((first | apply o_p | (refine' o_g rfl rfl ?_ ?_; rotate_left) | apply w_c); (focus simp (disch := first | decide | (try simp only [zz, hz]) <;> omega | fail) only [go_sem, hz, a0] <;> rfl); with_reducible first | apply o_i | apply g_1 | apply g_2 | apply g_3 | apply g_4 | apply c_1 | apply c_2) | apply r_E | apply b_k | apply s_k | apply s_q)
          refine W_exit ?_; simp only [Then, Out, JumpL, reduceIte, Nat.reduceEqDiff]
          repeat (first | apply s_R | apply o_n | ((first | apply o_p | (refine' o_g rfl rfl ?_ ?_; rotate_left) | apply w_c); (focus simp (disch := first | decide | (try simp only [zz, hz]) <;> omega | fail) only [go_sem, hz, a0] <;> rfl); with_reducible first | apply o_i | apply g_1 | apply g_2 | apply g_3 | apply g_4 | apply c_1 | apply c_2) | apply r_E | apply b_k | apply s_k | apply s_q)
          refine O_call (by simp (disch := first | decide | (try simp only [zz, hz]) <;> omega | fail) only [go_sem, hz, a0] <;> rfl) ?_
          refine C.mono (want_c h6 w_in) ?_
          rintro _ σ7 ⟨h7, g7⟩
          have nx7 := g7.next
          have gN7 := (g7.get σ.next (by omega) (by omega)).trans gN6
          have gM7 := (g7.get σ1.next (by omega) (by omega)).trans gM6
          have t7 := t6.ks (g7.ks h6.ez)
          replace g7 := (g5.kp k6).trans g7
          rw [in_eq]
          repeat (first | apply s_R | apply o_n | ((first | apply o_p | (refine' o_g rfl rfl ?_ ?_; rotate_left) | apply w_c); (focus simp (disch := first | decide | (try simp only [zz, hz]) <;> omega | fail) only [go_sem, hz, a0] <;> rfl); with_reducible first | apply o_i | apply g_1 | apply g_2 | apply g_3 | apply g_4 | apply c_1 | apply c_2) | apply r_E | apply b_k | apply s_k | apply s_q)
          refine W_regL (ord := [0, 1, 3, 4, 5, 6, 7, 2, 8, 9]) mixed (by kernel_rfl) (by simp only [permOps, List.filterMap_cons, List.filterMap_nil, List.getElem?_cons_zero, List.getElem?_cons_succ, Option.map_some, renum, Option.map_none]; rfl) (by kernel_rfl) (by kernel_rfl) (by kernel_rfl) (floatFit_by (i := 7) (d := 42) (by kernel_rfl) rfl rfl (by simp only [put_size, hz]; decide)) ?_
          repeat (apply v_x; (focus simp (disch := first | decide | (try simp only [zz, hz]) <;> omega | fail) only [go_sem, hz, a0, gM7, hl1] <;> rfl); first | refine vX_n ?_ | refine vX_l ?_ | refine vX_e ?_)
          refine V_call (by simp (disch := first | decide | (try simp only [zz, hz]) <;> omega | fail) only [go_sem, hz, a0] <;> rfl) ?_
          refine C.mono (inbQ_c (fs := [.pointer (some ⟨r, 0, none⟩)]) (cs := []) stable_true hK.parts _ _ trivial h7) ?_
          rintro _ σ8 ⟨⟨t8, l8, rfl, hl8, ho8⟩, h8, g8⟩
          have nx8 := g8.next
          have gN8 := (g8.get σ.next (by omega) (by omega)).trans gN7
          have gM8 := (g8.get σ1.next (by omega) (by omega)).trans gM7
          have t9 := t7.ks (g8.ks h7.ez)
          replace g8 := g7.trans g8
          have p1 : ∀ B1 : Blk, (σ8.push B1).get σ1.next = _ := fun _ => (push_ne (by omega)).trans gM8
          have p2 : ∀ B1 B2 : Blk, ((σ8.push B1).push B2).get σ1.next = _ := fun _ _ => (push_ne (by first | omega | (simp only [push_next, set_next]; first | done | omega))).trans (p1 _)
          have q2 : ∀ B1 B2 : Blk, ((σ8.push B1).push B2).get σ.next = _ := fun _ _ => (push_ne (by first | omega | (simp only [push_next, set_next]; first | done | omega))).trans ((push_ne (by first | omega | (simp only [push_next, set_next]; first | done | omega))).trans gN8)
          repeat (apply v_x; (focus simp (disch := first | decide | (try simp only [zz, hz]) <;> omega | fail) only [go_sem, hz, a0, hl8, ho8, hl1, ho1, gM8, p1, p2, q2] <;> rfl); first | refine vX_n ?_ | refine vX_l ?_ | refine vX_e ?_)
          refine V_nil ?_; refine And.intro (owes_by (L := [(1, 0), (1, 6), (1, 7), (1, 8)]) ?_ ?_) ?_; rotate_left 2; (try simp only [Then, Out, JumpL]); rotate_right 2; focus (kernel_rfl)
          · (repeat (refine owe_cons (Owed_op rfl rfl rfl rfl rfl (by simp (disch := first | decide | (try simp only [zz, hz]) <;> omega | fail) only [go_sem, hz, a0, gM7, gM8, p1, p2, hl1] <;> rfl)) ?_)); exact owe_nil
          refine W_ret ?_; (try simp only [Then, Out, Jump, JumpL]); refine ret_mk (by simp (disch := first | decide | (try simp only [zz, hz]) <;> omega | fail) only [go_sem, hz, q2, hl1] <;> rfl) ?_; (try simp only [resultA])
          have e9 : ∀ B1 B2 B3 : Blk, B3.esz = 0 → Ks σ8 (((σ8.push B1).push B2).set σ.next B3) := fun _ _ _ h0 => (((Ks.refl σ8).push _).push _).set (.inr (by rw [gN8])) _
          exact post_fin ((((Ow.refl _ _).push _).push _).set (Nat.le_refl _) _) g8 h8 hlr hlb (te_mkE (rd_lit1 (e := 37) (z := 1) (by simp (disch := first | decide | (try simp only [zz, hz]) <;> omega | fail) only [go_sem, hz] <;> rfl) (by decide) (by first | omega | (simp only [push_next, set_next]; first | done | omega)) (by first | omega | (simp only [push_next, set_next]; first | done | omega)) ((t9.ks (e9 _ _ _ rfl)).lo (fun k hk => by have := hk; omega))) (rd_lit1 (e := 44) (z := 1) (by simp (disch := first | decide | (try simp only [zz, hz]) <;> omega | fail) only [go_sem, hz] <;> rfl) (by decide) (by first | omega | (simp only [push_next, set_next]; first | done | omega)) (by first | omega | (simp only [push_next, set_next]; first | done | omega)) (TE.lo (TE.ks ⟨t8, l8, rfl, hl8, ho8⟩ (e9 _ _ _ rfl)) (fun k hk => by have := hk; omega))))
        | false =>
          (try rw [if_neg (by simp)])
          repeat (first | apply s_R | apply o_n | ((first | apply o_p | (refine' o_g rfl rfl ?_ ?_; rotate_left) | apply w_c); (focus simp (disch := first | decide | (try simp only [zz, hz]) <;> omega | fail) only [go_sem, hz, a0] <;> rfl); with_reducible first | apply o_i | apply g_1 | apply g_2 | apply g_3 | apply g_4 | apply c_1 | apply c_2) | apply r_E | apply b_k | apply s_k | apply s_q)
          refine W_exit ?_; simp only [Then, Out, JumpL, reduceIte, Nat.reduceEqDiff]
          repeat (first | apply s_R | apply o_n | ((first | apply o_p | (refine' o_g rfl rfl ?_ ?_; rotate_left) | apply w_c); (focus simp (disch := first | decide | (try simp only [zz, hz]) <;> omega | fail) only [go_sem, hz, a0, gN6, gM6, hl1, ho1] <;> rfl); with_reducible first | apply o_i | apply g_1 | apply g_2 | apply g_3 | apply g_4 | apply c_1 | apply c_2) | apply r_E | apply b_k | apply s_k | apply s_q)
          refine W_ret ?_; (try simp only [Then, Out, Jump, JumpL]); refine ret_mk (by simp (disch := first | decide | (try simp only [zz, hz]) <;> omega | fail) only [go_sem, hz, gN6, hl1] <;> rfl) ?_; (try simp only [resultA])
          exact post_fin ((Ow.refl _ _).set (Nat.le_refl _) _) (g5.kp k6) h6 hlr hlb ((t6.ks ((Ks.refl σ6).set (.inr (by rw [gN6])) _)).lo (fun k hk => by have := hk; omega))
end
end Go.Proofs.YtckidlbmoalomaaGreatDoor


namespace Go.Proofs.YtckidlbmoalomaaGreatDoor
open Go.RowKit
set_option maxRecDepth 10000
set_option linter.unusedSimpArgs false
set_option linter.unusedVariables false

section
variable {r b : Nat} {T : List Tk}
theorem deeperQ_c {E : AW → Prop} (hE : Stable r E) {d : Int} (h0 : 0 ≤ d) (hd : d ≤ 40) {g : Nat} {fs cs : List Value} {m : SM Tr} (hf : d < 40 → Reads E 10 r b T (d + 1) g (fs ++ cs) m) :
    Reads E 10 r b T d 36 [.pointer (some ⟨r, 0, none⟩), .func (.func g) ⟨fs⟩ ⟨cs⟩] (if d = 40 then tooDeep zQ else m) := by
  intro σ s he h
  have hlr := h.lr
  have hlb := h.lb
  obtain ⟨i, h1, hl⟩ := h
  have hr := h1.get
  refine C_enter rfl Tryz.func36 rfl Tryz.ntmps36 Tryz.results36 (Nat.le_of_ble_eq_true rfl) ?_; intro A hz hA; have a0 := hA 0 _ rfl; have a1 := hA 1 _ rfl; clear hA
  by_cases hc : d = 40
  · have c1 : (d == 40) = true := by simp [hc]
    rw [if_pos hc]
    repeat (first | apply s_R | apply o_n | ((first | apply o_p | (refine' o_g rfl rfl ?_ ?_; rotate_left) | apply w_c); (focus simp (disch := first | decide | (try simp only [zz, hz]) <;> omega | fail) only [go_sem, hz, a0, a1, hr, c1] <;> rfl); with_reducible first | apply o_i | apply g_1 | apply g_2 | apply g_3 | apply g_4 | apply c_1 | apply c_2) | apply r_E | apply b_k | apply s_k | apply s_q)
    refine O_call (by simp (disch := first | decide | (try simp only [zz, hz]) <;> omega | fail) only [go_sem, hz, a0, a1, hr, c1] <;> rfl) ?_
    refine C.mono (refuse_c (b := b) (T := T) (d := d) (s := s) (⟨i, h1.kp ((Kp.refl σ).push _), hl⟩) 9) ?_
    rintro _ σ2 ⟨h2, g2⟩
    have gN : σ2.get σ.next = ⟨1, 44, 0, _⟩ := (g2.get σ.next (Nat.lt_succ_self _) (by omega)).trans push_eq
    have nx := g2.next
    simp only [push_next] at nx
    repeat (first | apply s_R | apply o_n | ((first | apply o_p | (refine' o_g rfl rfl ?_ ?_; rotate_left) | apply w_c); (focus simp (disch := first | decide | (try simp only [zz, hz]) <;> omega | fail) only [go_sem, hz, a0, a1, gN] <;> rfl); with_reducible first | apply o_i | apply g_1 | apply g_2 | apply g_3 | apply g_4 | apply c_1 | apply c_2) | apply r_E | apply b_k | apply s_k | apply s_q)
    refine W_ret ?_; (try simp only [Then, Out, Jump, JumpL]); refine ret_mk (by simp (disch := first | decide | (try simp only [zz, hz]) <;> omega | fail) only [go_sem, hz, gN] <;> rfl) ?_; (try simp only [resultA])
    exact post_fin (((Ow.refl _ _).push _).set (Nat.le_refl _) _) g2.unpush h2 hlr hlb (te_mkQ (rd_nil _ _ _) (rd_nil _ _ _) (rd_nil _ _ _) (rd_nil _ _ _) (rd_nil _ _ _) (rd_nil _ _ _) (rd_nil _ _ _))
  · have c1 : (d == 40) = false := by simp [hc]
    rw [if_neg hc]
    have hadd : fastB .add (.int .i64 d) (.int .i64 1) = some (.int .i64 (d + 1)) := bin_addI (by omega) (by omega)
    have hsub : fastB .sub (.int .i64 (d + 1)) (.int .i64 1) = some (.int .i64 d) := by rw [bin_subI (by omega) (by omega)]; congr 2; omega
    repeat (first | apply s_R | apply o_n | ((first | apply o_p | (refine' o_g rfl rfl ?_ ?_; rotate_left) | apply w_c); (focus simp (disch := first | decide | (try simp only [zz, hz]) <;> omega | fail) only [go_sem, hz, a0, a1, hr, c1, hadd] <;> rfl); with_reducible first | apply o_i | apply g_1 | apply g_2 | apply g_3 | apply g_4 | apply c_1 | apply c_2) | apply r_E | apply b_k | apply s_k | apply s_q)
    refine O_call (by simp (disch := first | decide | (try simp only [zz, hz]) <;> omega | fail) only [go_sem, hz, a0, a1, hr, c1] <;> rfl) ?_
    have g1 : ∀ B1 B2 : Blk, Gr r σ ((σ.push B1).set r B2) := fun _ _ => ((Gr.refl r σ).push _).set (.inr rfl) _
    refine C.mono (hf (by omega) _ s (hE _ _ he (g1 _ _)) ⟨i, h1.gr (g1 _ _) h1.li (by rw [set_eq]), hl⟩) ?_
    rintro _ σ2 ⟨⟨t2, l, rfl, hl2, ho2⟩, h2, g2⟩
    have gN : σ2.get σ.next = ⟨1, 44, 0, _⟩ := (g2.get σ.next (Nat.lt_succ_self _) (by omega)).trans ((set_ne (by omega)).trans push_eq)
    have nx := g2.next
    simp only [push_next, set_next] at nx
    obtain ⟨i2, r2, e2⟩ := h2
    have hr2 := r2.get
    repeat (first | apply s_R | apply o_n | ((first | apply o_p | (refine' o_g rfl rfl ?_ ?_; rotate_left) | apply w_c); (focus simp (disch := first | decide | (try simp only [zz, hz]) <;> omega | fail) only [go_sem, hz, a0, a1, gN, hl2, ho2, hr2, hsub] <;> rfl); with_reducible first | apply o_i | apply g_1 | apply g_2 | apply g_3 | apply g_4 | apply c_1 | apply c_2) | apply r_E | apply b_k | apply s_k | apply s_q)
    refine W_ret ?_; (try simp only [Then, Out, Jump, JumpL]); refine ret_mk (by simp (disch := first | decide | (try simp only [zz, hz]) <;> omega | fail) only [go_sem, hz, gN, hl2] <;> rfl) ?_; (try simp only [resultA])
    refine ⟨TE.ks ⟨t2, l, rfl, hl2, ho2⟩ ((((Ks.refl σ2).push _).set (.inl (Nat.le_refl _)) _).set (.inr (by rw [hr2])) _ |>.set (.inr (by rw [gN])) _) |>.lo (fun k hk => ?_), ⟨i2, r2.gr ((((Gr.refl r σ2).push _).set (.inl (Nat.le_refl _)) _).set (.inr rfl) _) r2.li (by rw [set_eq]) |>.set (by omega) (by omega) _, e2⟩, ?_⟩
    · have : σ.next + 1 ≤ k := hk
      omega
    · exact ((((g1 _ _).trans g2).push _).set (.inl (by omega)) _ |>.set (.inr rfl) _).set (.inl (Nat.le_refl _)) _
theorem expr_c {d : Int} {m : SM Tr} (hf : Reads (fun _ => True) 6 r b T d 32 [.pointer (some ⟨r, 0, none⟩), .func (.func 18) ⟨[.pointer (some ⟨r, 0, none⟩)]⟩ ⟨[]⟩] m) : Reads (fun _ => True) 6 r b T d 72 [.pointer (some ⟨r, 0, none⟩)] m := by
  intro σ s he h
  have hlr := h.lr
  have hlb := h.lb
  refine C_enter rfl Tryz.func72 rfl Tryz.ntmps72 Tryz.results72 (Nat.le_of_ble_eq_true rfl) ?_; intro A hz hA; have a0 := hA 0 _ rfl; clear hA
  repeat (first | apply s_R | apply o_n | ((first | apply o_p | (refine' o_g rfl rfl ?_ ?_; rotate_left) | apply w_c); (focus simp (disch := first | decide | (try simp only [zz, hz]) <;> omega | fail) only [go_sem, hz, a0] <;> rfl); with_reducible first | apply o_i | apply g_1 | apply g_2 | apply g_3 | apply g_4 | apply c_1 | apply c_2) | apply r_E | apply b_k | apply s_k | apply s_q)
  refine O_call (by simp (disch := first | decide | (try simp only [zz, hz]) <;> omega | fail) only [go_sem, hz, a0] <;> rfl) ?_
  refine C.mono (hf _ _ trivial (h.kp ((Kp.refl σ).push _))) ?_
  rintro _ σ2 ⟨⟨t2, l, rfl, hl, ho⟩, h2, g2⟩
  have nx2 := g2.next
  simp only [push_next] at nx2
  have gN := (g2.get σ.next (by first | omega | (simp only [push_next, set_next]; first | done | omega)) (by omega)).trans push_eq
  repeat (first | apply s_R | apply o_n | ((first | apply o_p | (refine' o_g rfl rfl ?_ ?_; rotate_left) | apply w_c); (focus simp (disch := first | decide | (try simp only [zz, hz]) <;> omega | fail) only [go_sem, hz, a0, hl, ho, gN] <;> rfl); with_reducible first | apply o_i | apply g_1 | apply g_2 | apply g_3 | apply g_4 | apply c_1 | apply c_2) | apply r_E | apply b_k | apply s_k | apply s_q)
  refine W_ret ?_; (try simp only [Then, Out, Jump, JumpL]); refine ret_mk (by simp (disch := first | decide | (try simp only [zz, hz]) <;> omega | fail) only [go_sem, hz, hl] <;> rfl) ?_; (try simp only [resultA])
  exact post_fin ((Ow.refl _ _).set (Nat.le_refl _) _) g2.unpush h2 hlr hlb ((TE.ks ⟨t2, l, rfl, hl, ho⟩ ((Ks.refl σ2).set (.inr (by rw [gN])) _)).lo (fun k hk => by have := hk; simp only [push_next] at this; omega))
theorem query_c {d : Int} {m : SM Tr} (hf : Reads (fun _ => True) 10 r b T d 36 [.pointer (some ⟨r, 0, none⟩), .func (.func 21) ⟨[.pointer (some ⟨r, 0, none⟩)]⟩ ⟨[]⟩] m) : Reads (fun _ => True) 10 r b T d 66 [.pointer (some ⟨r, 0, none⟩)] m := by
  intro σ s he h
  have hlr := h.lr
  have hlb := h.lb
  refine C_enter rfl Tryz.func66 rfl Tryz.ntmps66 Tryz.results66 (Nat.le_of_ble_eq_true rfl) ?_; intro A hz hA; have a0 := hA 0 _ rfl; clear hA
  repeat (first | apply s_R | apply o_n | ((first | apply o_p | (refine' o_g rfl rfl ?_ ?_; rotate_left) | apply w_c); (focus simp (disch := first | decide | (try simp only [zz, hz]) <;> omega | fail) only [go_sem, hz, a0] <;> rfl); with_reducible first | apply o_i | apply g_1 | apply g_2 | apply g_3 | apply g_4 | apply c_1 | apply c_2) | apply r_E | apply b_k | apply s_k | apply s_q)
  refine O_call (by simp (disch := first | decide | (try simp only [zz, hz]) <;> omega | fail) only [go_sem, hz, a0] <;> rfl) ?_
  refine C.mono (hf _ _ trivial (h.kp ((Kp.refl σ).push _))) ?_
  rintro _ σ2 ⟨⟨t2, l, rfl, hl, ho⟩, h2, g2⟩
  have nx2 := g2.next
  simp only [push_next] at nx2
  have gN := (g2.get σ.next (by first | omega | (simp only [push_next, set_next]; first | done | omega)) (by omega)).trans push_eq
  repeat (first | apply s_R | apply o_n | ((first | apply o_p | (refine' o_g rfl rfl ?_ ?_; rotate_left) | apply w_c); (focus simp (disch := first | decide | (try simp only [zz, hz]) <;> omega | fail) only [go_sem, hz, a0, hl, ho, gN] <;> rfl); with_reducible first | apply o_i | apply g_1 | apply g_2 | apply g_3 | apply g_4 | apply c_1 | apply c_2) | apply r_E | apply b_k | apply s_k | apply s_q)
  refine W_ret ?_; (try simp only [Then, Out, Jump, JumpL]); refine ret_mk (by simp (disch := first | decide | (try simp only [zz, hz]) <;> omega | fail) only [go_sem, hz, hl] <;> rfl) ?_; (try simp only [resultA])
  exact post_fin ((Ow.refl _ _).set (Nat.le_refl _) _) g2.unpush h2 hlr hlb ((TE.ks ⟨t2, l, rfl, hl, ho⟩ ((Ks.refl σ2).set (.inr (by rw [gN])) _)).lo (fun k hk => by have := hk; simp only [push_next] at this; omega))
theorem together_eq (x : ByteArray) (s : Sy) : togetherS x s = if x = w_except then (4, s) else if x = w_intersect then (5, s) else (if (takeS w_all s).1 = true then 3 else 2, (takeS w_all s).2) := by
  unfold togetherS
  by_cases c : x = w_except
  · rw [if_pos c, if_pos c]; rfl
  · rw [if_neg c, if_neg c]
    by_cases c2 : x = w_intersect
    · rw [if_pos c2, if_pos c2]; rfl
    · rw [if_neg c2, if_neg c2, take_eq]
      split <;> rfl
theorem together_c {σ : AW} {s : Sy} {d : Int} (h : RdS σ r b T d s) (x : ByteArray) :
    C Tryz.prog 41 [.pointer (some ⟨r, 0, none⟩), .string x] σ fun v σ' => v = .int .i64 (togetherS x s).1 ∧ RdS σ' r b T d (togetherS x s).2 ∧ Gr r σ σ' := by
  rw [together_eq]
  refine C_enter rfl Tryz.func41 rfl Tryz.ntmps41 Tryz.results41 (Nat.le_of_ble_eq_true rfl) ?_; intro A hz hA; have a0 := hA 0 _ rfl; have a1 := hA 1 _ rfl; clear hA
  by_cases c : x = w_except
  · have e1 : decide (x = ⟨#[101, 120, 99, 101, 112, 116]⟩) = true := decide_eq_true c
    rw [if_pos c]
    repeat (first | apply s_R | apply o_n | ((first | apply o_p | (refine' o_g rfl rfl ?_ ?_; rotate_left) | apply w_c); (focus simp (disch := first | decide | (try simp only [zz, hz]) <;> omega | fail) only [go_sem, hz, a0, a1, e1] <;> rfl); with_reducible first | apply o_i | apply g_1 | apply g_2 | apply g_3 | apply g_4 | apply c_1 | apply c_2) | apply r_E | apply b_k | apply s_k | apply s_q)
    refine W_ret ?_; (try simp only [Then, Out, Jump, JumpL]); refine ret_mk (by simp (disch := first | decide | (try simp only [zz, hz]) <;> omega | fail) only [go_sem, hz] <;> rfl) ?_; (try simp only [resultA])
    first | exact ⟨rfl, h, Gr.refl r σ⟩ | exact ⟨trivial, h, Gr.refl r σ⟩
  · have e1 : decide (x = ⟨#[101, 120, 99, 101, 112, 116]⟩) = false := decide_eq_false c
    rw [if_neg c]
    by_cases c2 : x = w_intersect
    · have e2 : decide (x = ⟨#[105, 110, 116, 101, 114, 115, 101, 99, 116]⟩) = true := decide_eq_true c2
      rw [if_pos c2]
      repeat (first | apply s_R | apply o_n | ((first | apply o_p | (refine' o_g rfl rfl ?_ ?_; rotate_left) | apply w_c); (focus simp (disch := first | decide | (try simp only [zz, hz]) <;> omega | fail) only [go_sem, hz, a0, a1, e1, e2] <;> rfl); with_reducible first | apply o_i | apply g_1 | apply g_2 | apply g_3 | apply g_4 | apply c_1 | apply c_2) | apply r_E | apply b_k | apply s_k | apply s_q)
      refine W_ret ?_; (try simp only [Then, Out, Jump, JumpL]); refine ret_mk (by simp (disch := first | decide | (try simp only [zz, hz]) <;> omega | fail) only [go_sem, hz] <;> rfl) ?_; (try simp only [resultA])
      first | exact ⟨rfl, h, Gr.refl r σ⟩ | exact ⟨trivial, h, Gr.refl r σ⟩
    · have e2 : decide (x = ⟨#[105, 110, 116, 101, 114, 115, 101, 99, 116]⟩) = false := decide_eq_false c2
      rw [if_neg c2]
      repeat (first | apply s_R | apply o_n | ((first | apply o_p | (refine' o_g rfl rfl ?_ ?_; rotate_left) | apply w_c); (focus simp (disch := first | decide | (try simp only [zz, hz]) <;> omega | fail) only [go_sem, hz, a0, a1, e1, e2] <;> rfl); with_reducible first | apply o_i | apply g_1 | apply g_2 | apply g_3 | apply g_4 | apply c_1 | apply c_2) | apply r_E | apply b_k | apply s_k | apply s_q)
      refine O_call (by simp (disch := first | decide | (try simp only [zz, hz]) <;> omega | fail) only [go_sem, hz, a0, a1] <;> rfl) ?_
      refine C.mono (take_c h w_all) ?_
      rintro _ σ2 ⟨rfl, h2, g2⟩
      cases c3 : (takeS w_all s).1 with
      | true =>
        repeat (first | apply s_R | apply o_n | ((first | apply o_p | (refine' o_g rfl rfl ?_ ?_; rotate_left) | apply w_c); (focus simp (disch := first | decide | (try simp only [zz, hz]) <;> omega | fail) only [go_sem, hz, a0, a1] <;> rfl); with_reducible first | apply o_i | apply g_1 | apply g_2 | apply g_3 | apply g_4 | apply c_1 | apply c_2) | apply r_E | apply b_k | apply s_k | apply s_q)
        refine W_ret ?_; (try simp only [Then, Out, Jump, JumpL]); refine ret_mk (by simp (disch := first | decide | (try simp only [zz, hz]) <;> omega | fail) only [go_sem, hz] <;> rfl) ?_; (try simp only [resultA])
        first | exact ⟨rfl, h2, g2⟩ | exact ⟨trivial, h2, g2⟩
      | false =>
        repeat (first | apply s_R | apply o_n | ((first | apply o_p | (refine' o_g rfl rfl ?_ ?_; rotate_left) | apply w_c); (focus simp (disch := first | decide | (try simp only [zz, hz]) <;> omega | fail) only [go_sem, hz, a0, a1] <;> rfl); with_reducible first | apply o_i | apply g_1 | apply g_2 | apply g_3 | apply g_4 | apply c_1 | apply c_2) | apply r_E | apply b_k | apply s_k | apply s_q)
        refine W_ret ?_; (try simp only [Then, Out, Jump, JumpL]); refine ret_mk (by simp (disch := first | decide | (try simp only [zz, hz]) <;> omega | fail) only [go_sem, hz] <;> rfl) ?_; (try simp only [resultA])
        first | exact ⟨rfl, h2, g2⟩ | exact ⟨trivial, h2, g2⟩
theorem rd_of_agg {σ : AW} {D : Nat → Prop} {p : Value} {l : List Value} (h : Rd σ D p (.agg ⟨l⟩)) : ∃ ps, p = .agg ⟨ps⟩ ∧ RdL σ D ps l := by
  cases p with
  | bool b => cases (h : _ = _)
  | int k n => cases (h : _ = _)
  | string s => cases (h : _ = _)
  | iface n w =>
    obtain ⟨m, _, hs⟩ := h
    rcases hs with ⟨_, a, c, e⟩ | ⟨b, o, c, k, e, z, cs, e, _⟩ <;> cases e
  | agg a =>
    obtain ⟨ps⟩ := a
    obtain ⟨m, e, h⟩ := rd_agg.1 h
    cases e
    exact ⟨ps, rfl, h⟩
  | _ => exact (h : False).elim
theorem te_more {σ : AW} {D : Nat → Prop} {l : List Value} {x y v : Value} (h : TE 6 σ D (.agg ⟨l⟩) x) (hy : Rd σ D y v) (ho : oneB v = true) : TE 7 σ D (.agg ⟨l ++ [v]⟩) (.agg ⟨cellsT x ++ [y]⟩) := by
  obtain ⟨h1, m, e, h2, h3⟩ := h
  cases e
  obtain ⟨ps, rfl, h⟩ := rd_of_agg h1
  exact ⟨rd_agg.2 ⟨_, rfl, RdL.append h (RdL.one hy)⟩, _, rfl, by simp [h2], by simp [h3, ho]⟩
theorem bdI : ∀ {l : List Value}, l.length = 6 → ∀ x : ByteArray, buildA Tryz.prog 105 [(0, .agg ⟨l⟩), (1, .string x)] = some (.agg ⟨l ++ [.string x]⟩)
  | [_, _, _, _, _, _], _, _ => by rw [bd_105]; rfl
theorem bdK : ∀ {l : List Value}, l.length = 6 → ∀ x : Bool, buildA Tryz.prog 107 [(0, .agg ⟨l⟩), (1, .bool x)] = some (.agg ⟨l ++ [.bool x]⟩)
  | [_, _, _, _, _, _], _, _ => by rw [bd_107]; rfl
theorem item_c (hW : WordOK) {K : Knot} {d : Int} (hK : KOK K r b T d) : Reads (fun _ => True) 7 r b T d 68 [.pointer (some ⟨r, 0, none⟩)] (itemS K) := by
  intro σ s he h
  have hlr := h.lr
  have hlb := h.lb
  refine C_enter rfl Tryz.func68 rfl Tryz.ntmps68 Tryz.results68 (Nat.le_of_ble_eq_true rfl) ?_; intro A hz hA; have a0 := hA 0 _ rfl; clear hA
  repeat (first | apply s_R | apply o_n | ((first | apply o_p | (refine' o_g rfl rfl ?_ ?_; rotate_left) | apply w_c); (focus simp (disch := first | decide | (try simp only [zz, hz]) <;> omega | fail) only [go_sem, hz, a0] <;> rfl); with_reducible first | apply o_i | apply g_1 | apply g_2 | apply g_3 | apply g_4 | apply c_1 | apply c_2) | apply r_E | apply b_k | apply s_k | apply s_q)
  refine O_call (by simp (disch := first | decide | (try simp only [zz, hz]) <;> omega | fail) only [go_sem, hz, a0] <;> rfl) ?_
  refine C.mono (hK.or _ _ trivial (h.kp ((Kp.refl σ).push _))) ?_
  rintro _ σ1 ⟨⟨t1, l1, rfl, hl1, ho1⟩, h1, g1⟩
  have nx1 := g1.next
  simp only [push_next] at nx1
  have gN1 := (g1.get σ.next (by first | omega | (simp only [push_next, set_next]; first | done | omega)) (by omega)).trans push_eq
  replace g1 := g1.unpush
  have t1 : TE 6 σ1 (fun k => σ.next + 1 ≤ k) (.agg ⟨l1⟩) (K.or s).1 := ⟨t1, l1, rfl, hl1, ho1⟩
  repeat (first | apply s_R | apply o_n | ((first | apply o_p | (refine' o_g rfl rfl ?_ ?_; rotate_left) | apply w_c); (focus simp (disch := first | decide | (try simp only [zz, hz]) <;> omega | fail) only [go_sem, hz, a0, hl1, ho1] <;> rfl); with_reducible first | apply o_i | apply g_1 | apply g_2 | apply g_3 | apply g_4 | apply c_1 | apply c_2) | apply r_E | apply b_k | apply s_k | apply s_q)
  refine O_call (by simp (disch := first | decide | (try simp only [zz, hz]) <;> omega | fail) only [go_sem, hz, a0, hl1, ho1] <;> rfl) ?_
  have w2 : ∀ B1 B2 : Blk, Ow σ.next σ1 ((σ1.push B1).set σ1.next B2) := fun _ _ => (((Ow.refl σ.next σ1).push _).set (by omega) _)
  have e2 : ∀ B1 B2 : Blk, Ks σ1 ((σ1.push B1).set σ1.next B2) := fun _ _ => (((Ks.refl σ1).push _).set (.inl (Nat.le_refl _)) _)
  refine C.mono (want_c (h1.ow (w2 _ _) hlr hlb) w_as) ?_
  rintro _ σ3 ⟨h3, g3⟩
  have nx3 := g3.next
  simp only [push_next, set_next] at nx3
  have gN3 := (g3.get σ.next (by first | omega | (simp only [push_next, set_next]; first | done | omega)) (by omega)).trans ((set_ne (by omega)).trans ((push_ne (by omega)).trans gN1))
  have gM3 := (g3.get σ1.next (by first | omega | (simp only [push_next, set_next]; first | done | omega)) (by omega)).trans set_eq
  have t3 := (t1.ks (e2 _ _)).ks (g3.ks (h1.ow (w2 _ _) hlr hlb).ez)
  replace g3 := (g1.ow (w2 _ _)).trans g3
  repeat (first | apply s_R | apply o_n | ((first | apply o_p | (refine' o_g rfl rfl ?_ ?_; rotate_left) | apply w_c); (focus simp (disch := first | decide | (try simp only [zz, hz]) <;> omega | fail) only [go_sem, hz, a0] <;> rfl); with_reducible first | apply o_i | apply g_1 | apply g_2 | apply g_3 | apply g_4 | apply c_1 | apply c_2) | apply r_E | apply b_k | apply s_k | apply s_q)
  refine W_regDE mixed (by kernel_rfl) (by kernel_rfl) ?_
  repeat (apply v_x; (focus simp (disch := first | decide | (try simp only [zz, hz]) <;> omega | fail) only [go_sem, hz, a0, gM3, hl1] <;> rfl); first | refine vX_n ?_ | refine vX_l ?_ | refine vX_e ?_)
  refine V_call (by simp (disch := first | decide | (try simp only [zz, hz]) <;> omega | fail) only [go_sem, hz, a0] <;> rfl) ?_
  refine C.mono (name_c hW h3) ?_
  rintro _ σ4 ⟨rfl, h4, g4⟩
  have nx4 := g4.next
  have gN4 := (g4.get σ.next (by omega) (by omega)).trans gN3
  have gM4 := (g4.get σ1.next (by omega) (by omega)).trans gM3
  have t4 := t3.ks (g4.ks h3.ez)
  replace g4 := g3.trans g4
  have hl5 : ∀ v, (l1 ++ [v]).length = 7 := fun v => by simp [hl1]
  have ht5 : ∀ v, (l1 ++ [v]).take 7 = l1 ++ [v] := fun v => List.take_of_length_le (Nat.le_of_eq (hl5 v))
  have ho5 : ∀ x, (l1 ++ [Value.string x]).all oneB = true := fun v => by simp [ho1, oneB]
  repeat (apply v_x; (focus simp (disch := first | decide | (try simp only [zz, hz]) <;> omega | fail) only [go_sem, hz, a0, gN4, bdI hl1, hl5, ho5] <;> rfl); first | refine vX_n ?_ | refine vX_l ?_ | refine vX_e ?_)
  refine V_nil ?_; refine And.intro (owes_by (L := [(0, 0), (0, 3)]) ?_ ?_) ?_; rotate_left 2; (try simp only [Then, Out, JumpL]); rotate_right 2; focus (kernel_rfl)
  · (repeat (refine owe_cons (Owed_op rfl rfl rfl rfl rfl (by simp (disch := first | decide | (try simp only [zz, hz]) <;> omega | fail) only [go_sem, hz, a0, gM3, gM4, hl1] <;> rfl)) ?_)); exact owe_nil
  refine W_ret ?_; (try simp only [Then, Out, Jump, JumpL]); refine ret_mk (by simp (disch := first | decide | (try simp only [zz, hz]) <;> omega | fail) only [go_sem, hz, hl5, ht5] <;> rfl) ?_; (try simp only [resultA])
  exact post_fin ((Ow.refl _ _).set (Nat.le_refl _) _) g4 h4 hlr hlb (te_more ((t4.ks ((Ks.refl σ4).set (.inr (by rw [gN4])) _)).lo (fun k hk => by have := hk; omega)) (rd_str.2 rfl) rfl)
theorem key_c {K : Knot} {d : Int} (hK : KOK K r b T d) : Reads (fun _ => True) 7 r b T d 75 [.pointer (some ⟨r, 0, none⟩)] (keyS K) := by
  intro σ s he h
  have hlr := h.lr
  have hlb := h.lb
  refine C_enter rfl Tryz.func75 rfl Tryz.ntmps75 Tryz.results75 (Nat.le_of_ble_eq_true rfl) ?_; intro A hz hA; have a0 := hA 0 _ rfl; clear hA
  repeat (first | apply s_R | apply o_n | ((first | apply o_p | (refine' o_g rfl rfl ?_ ?_; rotate_left) | apply w_c); (focus simp (disch := first | decide | (try simp only [zz, hz]) <;> omega | fail) only [go_sem, hz, a0] <;> rfl); with_reducible first | apply o_i | apply g_1 | apply g_2 | apply g_3 | apply g_4 | apply c_1 | apply c_2) | apply r_E | apply b_k | apply s_k | apply s_q)
  refine O_call (by simp (disch := first | decide | (try simp only [zz, hz]) <;> omega | fail) only [go_sem, hz, a0] <;> rfl) ?_
  refine C.mono (hK.or _ _ trivial (h.kp ((Kp.refl σ).push _))) ?_
  rintro _ σ1 ⟨⟨t1, l1, rfl, hl1, ho1⟩, h1, g1⟩
  have nx1 := g1.next
  simp only [push_next] at nx1
  have gN1 := (g1.get σ.next (by first | omega | (simp only [push_next, set_next]; first | done | omega)) (by omega)).trans push_eq
  replace g1 := g1.unpush
  have t1 : TE 6 σ1 (fun k => σ.next + 1 ≤ k) (.agg ⟨l1⟩) (K.or s).1 := ⟨t1, l1, rfl, hl1, ho1⟩
  repeat (first | apply s_R | apply o_n | ((first | apply o_p | (refine' o_g rfl rfl ?_ ?_; rotate_left) | apply w_c); (focus simp (disch := first | decide | (try simp only [zz, hz]) <;> omega | fail) only [go_sem, hz, a0, hl1, ho1] <;> rfl); with_reducible first | apply o_i | apply g_1 | apply g_2 | apply g_3 | apply g_4 | apply c_1 | apply c_2) | apply r_E | apply b_k | apply s_k | apply s_q)
  refine W_regDE mixed (by kernel_rfl) (by kernel_rfl) ?_
  have w2 : ∀ B1 B2 : Blk, Ow σ.next σ1 ((σ1.push B1).set σ1.next B2) := fun _ _ => (((Ow.refl σ.next σ1).push _).set (by omega) _)
  have e2 : ∀ B1 B2 : Blk, Ks σ1 ((σ1.push B1).set σ1.next B2) := fun _ _ => (((Ks.refl σ1).push _).set (.inl (Nat.le_refl _)) _)
  repeat (apply v_x; (focus simp (disch := first | decide | (try simp only [zz, hz]) <;> omega | fail) only [go_sem, hz, a0, hl1] <;> rfl); first | refine vX_n ?_ | refine vX_l ?_ | refine vX_e ?_)
  refine V_call (by simp (disch := first | decide | (try simp only [zz, hz]) <;> omega | fail) only [go_sem, hz, a0] <;> rfl) ?_
  refine C.mono (take_c (h1.ow (w2 _ _) hlr hlb) w_desc) ?_
  rintro _ σ4 ⟨rfl, h4, g4⟩
  have nx4 := g4.next
  simp only [push_next, set_next] at nx4
  have gN4 := (g4.get σ.next (by first | omega | (simp only [push_next, set_next]; first | done | omega)) (by omega)).trans ((set_ne (by omega)).trans ((push_ne (by omega)).trans gN1))
  have gM4 := (g4.get σ1.next (by first | omega | (simp only [push_next, set_next]; first | done | omega)) (by omega)).trans set_eq
  have t4 := (t1.ks (e2 _ _)).ks (g4.ks (h1.ow (w2 _ _) hlr hlb).ez)
  replace g4 := (g1.ow (w2 _ _)).trans g4
  have hl5 : ∀ v, (l1 ++ [v]).length = 7 := fun v => by simp [hl1]
  have ht5 : ∀ v, (l1 ++ [v]).take 7 = l1 ++ [v] := fun v => List.take_of_length_le (Nat.le_of_eq (hl5 v))
  have ho5 : ∀ x, (l1 ++ [Value.bool x]).all oneB = true := fun v => by simp [ho1, oneB]
  repeat (apply v_x; (focus simp (disch := first | decide | (try simp only [zz, hz]) <;> omega | fail) only [go_sem, hz, a0, gN4, bdK hl1, hl5, ho5] <;> rfl); first | refine vX_n ?_ | refine vX_l ?_ | refine vX_e ?_)
  refine V_nil ?_; refine And.intro (owes_by (L := [(0, 0), (0, 3)]) ?_ ?_) ?_; rotate_left 2; (try simp only [Then, Out, JumpL]); rotate_right 2; focus (kernel_rfl)
  · (repeat (refine owe_cons (Owed_op rfl rfl rfl rfl rfl (by simp (disch := first | decide | (try simp only [zz, hz]) <;> omega | fail) only [go_sem, hz, a0, gM4, hl1] <;> rfl)) ?_)); exact owe_nil
  refine W_ret ?_; (try simp only [Then, Out, Jump, JumpL]); refine ret_mk (by simp (disch := first | decide | (try simp only [zz, hz]) <;> omega | fail) only [go_sem, hz, hl5, ht5] <;> rfl) ?_; (try simp only [resultA])
  exact post_fin ((Ow.refl _ _).set (Nat.le_refl _) _) g4 h4 hlr hlb (te_more ((t4.ks ((Ks.refl σ4).set (.inr (by rw [gN4])) _)).lo (fun k hk => by have := hk; omega)) (rd_bool.2 rfl) rfl)
end
end Go.Proofs.YtckidlbmoalomaaGreatDoor


namespace Go.Proofs.YtckidlbmoalomaaGreatDoor
open Go.RowKit
set_option maxRecDepth 10000
set_option linter.unusedSimpArgs false
set_option linter.unusedVariables false

section
variable {r b : Nat} {T : List Tk}
theorem one_t (K : Knot) (s : Sy) (c : seesB m_lp s = true) : oneS K s = (mkF 2 false eB (nameS (wantS w_as (inBracketsS K.parts s).2).2).1 [(inBracketsS K.parts s).1] [] [], (nameS (wantS w_as (inBracketsS K.parts s).2).2).2) := by
  unfold oneS
  rw [sees_eq, if_pos c]
  rfl
theorem one_f (K : Knot) (s : Sy) (c : seesB m_lp s = false) : oneS K s = (mkF 1 (takeS w_visible (nameS s).2).1 (nameS s).1 (if (takeS w_as (takeS w_visible (nameS s).2).2).1 = true then (nameS (takeS w_as (takeS w_visible (nameS s).2).2).2).1 else (nameS s).1) [] [] [], if (takeS w_as (takeS w_visible (nameS s).2).2).1 = true then (nameS (takeS w_as (takeS w_visible (nameS s).2).2).2).2 else (takeS w_as (takeS w_visible (nameS s).2).2).2) := by
  unfold oneS
  rw [sees_eq, if_neg (by simp [c])]
  show (takeS w_as >>= fun b => if b = true then _ else _) (takeS w_visible (nameS s).2).2 = _
  rw [take_eq]
  split <;> rfl
theorem one_c (hW : WordOK) {K : Knot} {d : Int} (hK : KOK K r b T d) : Reads (fun _ => True) 7 r b T d 95 [.pointer (some ⟨r, 0, none⟩)] (oneS K) := by
  intro σ s he h
  have hlr := h.lr
  have hlb := h.lb
  refine C_enter rfl Tryz.func95 rfl Tryz.ntmps95 Tryz.results95 (Nat.le_of_ble_eq_true rfl) ?_; intro A hz hA; have a0 := hA 0 _ rfl; clear hA
  repeat (first | apply s_R | apply o_n | ((first | apply o_p | (refine' o_g rfl rfl ?_ ?_; rotate_left) | apply w_c); (focus simp (disch := first | decide | (try simp only [zz, hz]) <;> omega | fail) only [go_sem, hz, a0] <;> rfl); with_reducible first | apply o_i | apply g_1 | apply g_2 | apply g_3 | apply g_4 | apply c_1 | apply c_2) | apply r_E | apply b_k | apply s_k | apply s_q)
  refine O_call (by simp (disch := first | decide | (try simp only [zz, hz]) <;> omega | fail) only [go_sem, hz, a0] <;> rfl) ?_
  refine C.mono (sees_s (h.kp ((Kp.refl σ).push _)) m_lp) ?_
  rintro _ σ1 ⟨rfl, k1⟩
  have nx1 := k1.next
  simp only [push_next] at nx1
  have gN1 := (k1.get σ.next (by first | omega | (simp only [push_next, set_next]; first | done | omega))).trans push_eq
  have h1 := (h.kp ((Kp.refl σ).push _)).kp k1
  replace k1 := (((Kp.refl σ).push _).trans k1).gr r
  cases c : seesB m_lp s with
  | true =>
    rw [one_t K s c]
    repeat (first | apply s_R | apply o_n | ((first | apply o_p | (refine' o_g rfl rfl ?_ ?_; rotate_left) | apply w_c); (focus simp (disch := first | decide | (try simp only [zz, hz]) <;> omega | fail) only [go_sem, hz, a0] <;> rfl); with_reducible first | apply o_i | apply g_1 | apply g_2 | apply g_3 | apply g_4 | apply c_1 | apply c_2) | apply r_E | apply b_k | apply s_k | apply s_q)
    refine O_call (by simp (disch := first | decide | (try simp only [zz, hz]) <;> omega | fail) only [go_sem, hz, a0] <;> rfl) ?_
    refine C.mono (inbQ_c (fs := [.pointer (some ⟨r, 0, none⟩)]) (cs := []) stable_true hK.parts _ _ trivial h1) ?_
    rintro _ σ2 ⟨⟨t2, l2, rfl, hl2, ho2⟩, h2, g2⟩
    have nx2 := g2.next
    have gN2 := (g2.get σ.next (by omega) (by omega)).trans gN1
    replace g2 := k1.trans g2
    have t2 : TE 10 σ2 (fun k => σ1.next ≤ k) (.agg ⟨l2⟩) (inBracketsS K.parts s).1 := ⟨t2, l2, rfl, hl2, ho2⟩
    repeat (first | apply s_R | apply o_n | ((first | apply o_p | (refine' o_g rfl rfl ?_ ?_; rotate_left) | apply w_c); (focus simp (disch := first | decide | (try simp only [zz, hz]) <;> omega | fail) only [go_sem, hz, a0, hl2, ho2] <;> rfl); with_reducible first | apply o_i | apply g_1 | apply g_2 | apply g_3 | apply g_4 | apply c_1 | apply c_2) | apply r_E | apply b_k | apply s_k | apply s_q)
    refine O_call (by simp (disch := first | decide | (try simp only [zz, hz]) <;> omega | fail) only [go_sem, hz, a0, hl2, ho2] <;> rfl) ?_
    have w3 : ∀ B1 B2 : Blk, Ow σ.next σ2 ((σ2.push B1).set σ2.next B2) := fun _ _ => (((Ow.refl σ.next σ2).push _).set (by omega) _)
    have e3 : ∀ B1 B2 : Blk, Ks σ2 ((σ2.push B1).set σ2.next B2) := fun _ _ => (((Ks.refl σ2).push _).set (.inl (Nat.le_refl _)) _)
    refine C.mono (want_c (h2.ow (w3 _ _) hlr hlb) w_as) ?_
    rintro _ σ3 ⟨h3, g3⟩
    have nx3 := g3.next
    simp only [push_next, set_next] at nx3
    have gN3 := (g3.get σ.next (by first | omega | (simp only [push_next, set_next]; first | done | omega)) (by omega)).trans ((set_ne (by omega)).trans ((push_ne (by omega)).trans gN2))
    have gM3 := (g3.get σ2.next (by first | omega | (simp only [push_next, set_next]; first | done | omega)) (by omega)).trans set_eq
    have t3 := (t2.ks (e3 _ _)).ks (g3.ks (h2.ow (w3 _ _) hlr hlb).ez)
    replace g3 := (g2.ow (w3 _ _)).trans g3
    repeat (first | apply s_R | apply o_n | ((first | apply o_p | (refine' o_g rfl rfl ?_ ?_; rotate_left) | apply w_c); (focus simp (disch := first | decide | (try simp only [zz, hz]) <;> omega | fail) only [go_sem, hz, a0] <;> rfl); with_reducible first | apply o_i | apply g_1 | apply g_2 | apply g_3 | apply g_4 | apply c_1 | apply c_2) | apply r_E | apply b_k | apply s_k | apply s_q)
    refine W_regDE mixed (by kernel_rfl) (floatFit_by (i := 3) (d := 17) (by kernel_rfl) rfl rfl (by simp only [put_size, hz]; decide)) ?_
    repeat (apply v_x; (focus simp (disch := first | decide | (try simp only [zz, hz]) <;> omega | fail) only [go_sem, hz, a0, gM3, hl2] <;> rfl); first | refine vX_n ?_ | refine vX_l ?_ | refine vX_e ?_)
    refine V_call (by simp (disch := first | decide | (try simp only [zz, hz]) <;> omega | fail) only [go_sem, hz, a0] <;> rfl) ?_
    refine C.mono (name_c hW h3) ?_
    rintro _ σ4 ⟨rfl, h4, g4⟩
    have nx4 := g4.next
    have gN4 := (g4.get σ.next (by omega) (by omega)).trans gN3
    have gM4 := (g4.get σ2.next (by omega) (by omega)).trans gM3
    have t4 := t3.ks (g4.ks h3.ez)
    replace g4 := g3.trans g4
    have p1 : ∀ B1 : Blk, (σ4.push B1).get σ2.next = _ := fun _ => (push_ne (by omega)).trans gM4
    have q1 : ∀ B1 : Blk, (σ4.push B1).get σ.next = _ := fun _ => (push_ne (by omega)).trans gN4
    repeat (apply v_x; (focus simp (disch := first | decide | (try simp only [zz, hz]) <;> omega | fail) only [go_sem, hz, a0, gM4, hl2, ho2, p1, q1] <;> rfl); first | refine vX_n ?_ | refine vX_l ?_ | refine vX_e ?_)
    refine V_nil ?_; refine And.intro (owes_by (L := [(2, 0), (2, 2), (2, 4)]) ?_ ?_) ?_; rotate_left 2; (try simp only [Then, Out, JumpL]); rotate_right 2; focus (kernel_rfl)
    · (repeat (refine owe_cons (Owed_op rfl rfl rfl rfl rfl (by simp (disch := first | decide | (try simp only [zz, hz]) <;> omega | fail) only [go_sem, hz, a0, gM3, gM4, p1, hl2] <;> rfl)) ?_)); exact owe_nil
    refine W_ret ?_; (try simp only [Then, Out, Jump, JumpL]); refine ret_mk (by simp (disch := first | decide | (try simp only [zz, hz]) <;> omega | fail) only [go_sem, hz, q1, hl2] <;> rfl) ?_; (try simp only [resultA])
    have e4 : ∀ B1 B2 : Blk, Ks σ4 ((σ4.push B1).set σ.next B2) := fun _ _ => ((Ks.refl σ4).push _).set (.inr (by rw [gN4])) _
    exact post_fin (((Ow.refl _ _).push _).set (Nat.le_refl _) _) g4 h4 hlr hlb (te_mkF (rd_lit1 (e := 44) (z := 1) (by simp (disch := first | decide | (try simp only [zz, hz]) <;> omega | fail) only [go_sem, hz] <;> rfl) (by decide) (by first | omega | (simp only [push_next, set_next]; first | done | omega)) (by first | omega | (simp only [push_next, set_next]; first | done | omega)) ((t4.ks (e4 _ _)).lo (fun k hk => by have := hk; omega))) (rd_nil _ _ _) (rd_nil _ _ _))
  | false =>
    rw [one_f K s c]
    repeat (first | apply s_R | apply o_n | ((first | apply o_p | (refine' o_g rfl rfl ?_ ?_; rotate_left) | apply w_c); (focus simp (disch := first | decide | (try simp only [zz, hz]) <;> omega | fail) only [go_sem, hz, a0] <;> rfl); with_reducible first | apply o_i | apply g_1 | apply g_2 | apply g_3 | apply g_4 | apply c_1 | apply c_2) | apply r_E | apply b_k | apply s_k | apply s_q)
    refine O_call (by simp (disch := first | decide | (try simp only [zz, hz]) <;> omega | fail) only [go_sem, hz, a0] <;> rfl) ?_
    refine C.mono (name_c hW h1) ?_
    rintro _ σ2 ⟨rfl, h2, g2⟩
    have nx2 := g2.next
    have gN2 := (g2.get σ.next (by omega) (by omega)).trans gN1
    replace g2 := k1.trans g2
    repeat (first | apply s_R | apply o_n | ((first | apply o_p | (refine' o_g rfl rfl ?_ ?_; rotate_left) | apply w_c); (focus simp (disch := first | decide | (try simp only [zz, hz]) <;> omega | fail) only [go_sem, hz, a0] <;> rfl); with_reducible first | apply o_i | apply g_1 | apply g_2 | apply g_3 | apply g_4 | apply c_1 | apply c_2) | apply r_E | apply b_k | apply s_k | apply s_q)
    refine O_call (by simp (disch := first | decide | (try simp only [zz, hz]) <;> omega | fail) only [go_sem, hz, a0] <;> rfl) ?_
    refine C.mono (take_c h2 w_visible) ?_
    rintro _ σ3 ⟨rfl, h3, g3⟩
    have nx3 := g3.next
    have gN3 := (g3.get σ.next (by omega) (by omega)).trans gN2
    replace g3 := g2.trans g3
    repeat (first | apply s_R | apply o_n | ((first | apply o_p | (refine' o_g rfl rfl ?_ ?_; rotate_left) | apply w_c); (focus simp (disch := first | decide | (try simp only [zz, hz]) <;> omega | fail) only [go_sem, hz, a0] <;> rfl); with_reducible first | apply o_i | apply g_1 | apply g_2 | apply g_3 | apply g_4 | apply c_1 | apply c_2) | apply r_E | apply b_k | apply s_k | apply s_q)
    refine O_call (by simp (disch := first | decide | (try simp only [zz, hz]) <;> omega | fail) only [go_sem, hz, a0] <;> rfl) ?_
    have w3 : ∀ B1 B2 : Blk, Ow σ.next σ3 ((σ3.push B1).set σ3.next B2) := fun _ _ => (((Ow.refl σ.next σ3).push _).set (by omega) _)
    refine C.mono (take_c (h3.ow (w3 _ _) hlr hlb) w_as) ?_
    rintro _ σ4 ⟨rfl, h4, g4⟩
    have nx4 := g4.next
    simp only [push_next, set_next] at nx4
    have gN4 := (g4.get σ.next (by first | omega | (simp only [push_next, set_next]; first | done | omega)) (by omega)).trans ((set_ne (by omega)).trans ((push_ne (by omega)).trans gN3))
    have gM4 := (g4.get σ3.next (by first | omega | (simp only [push_next, set_next]; first | done | omega)) (by omega)).trans set_eq
    replace g4 := (g3.ow (w3 _ _)).trans g4
    cases c4 : (takeS w_as (takeS w_visible (nameS s).2).2).1 with
    | true =>
      repeat (first | apply s_R | apply o_n | ((first | apply o_p | (refine' o_g rfl rfl ?_ ?_; rotate_left) | apply w_c); (focus simp (disch := first | decide | (try simp only [zz, hz]) <;> omega | fail) only [go_sem, hz, a0] <;> rfl); with_reducible first | apply o_i | apply g_1 | apply g_2 | apply g_3 | apply g_4 | apply c_1 | apply c_2) | apply r_E | apply b_k | apply s_k | apply s_q)
      refine O_call (by simp (disch := first | decide | (try simp only [zz, hz]) <;> omega | fail) only [go_sem, hz, a0] <;> rfl) ?_
      refine C.mono (name_c hW h4) ?_
      rintro _ σ5 ⟨rfl, h5, g5⟩
      have nx5 := g5.next
      have gN5 := (g5.get σ.next (by omega) (by omega)).trans gN4
      have gM5 := (g5.get σ3.next (by omega) (by omega)).trans gM4
      replace g5 := g4.trans g5
      have gN6 : ∀ B1 : Blk, (σ5.set σ3.next B1).get σ.next = _ := fun _ => (set_ne (by omega)).trans gN5
      repeat (first | apply s_R | apply o_n | ((first | apply o_p | (refine' o_g rfl rfl ?_ ?_; rotate_left) | apply w_c); (focus simp (disch := first | decide | (try simp only [zz, hz]) <;> omega | fail) only [go_sem, hz, a0, gM5, gN6] <;> rfl); with_reducible first | apply o_i | apply g_1 | apply g_2 | apply g_3 | apply g_4 | apply c_1 | apply c_2) | apply r_E | apply b_k | apply s_k | apply s_q)
      refine W_ret ?_; (try simp only [Then, Out, Jump, JumpL]); refine ret_mk (by simp (disch := first | decide | (try simp only [zz, hz]) <;> omega | fail) only [go_sem, hz, gN6] <;> rfl) ?_; (try simp only [resultA])
      exact post_fin (((Ow.refl _ _).set (by omega) _).set (Nat.le_refl _) _) g5 h5 hlr hlb (te_mkF (rd_nil _ _ _) (rd_nil _ _ _) (rd_nil _ _ _))
    | false =>
      repeat (first | apply s_R | apply o_n | ((first | apply o_p | (refine' o_g rfl rfl ?_ ?_; rotate_left) | apply w_c); (focus simp (disch := first | decide | (try simp only [zz, hz]) <;> omega | fail) only [go_sem, hz, a0, gM4, gN4] <;> rfl); with_reducible first | apply o_i | apply g_1 | apply g_2 | apply g_3 | apply g_4 | apply c_1 | apply c_2) | apply r_E | apply b_k | apply s_k | apply s_q)
      refine W_ret ?_; (try simp only [Then, Out, Jump, JumpL]); refine ret_mk (by simp (disch := first | decide | (try simp only [zz, hz]) <;> omega | fail) only [go_sem, hz, gN4] <;> rfl) ?_; (try simp only [resultA])
      exact post_fin ((Ow.refl _ _).set (Nat.le_refl _) _) g4 h4 hlr hlb (te_mkF (rd_nil _ _ _) (rd_nil _ _ _) (rd_nil _ _ _))
end
end Go.Proofs.YtckidlbmoalomaaGreatDoor


namespace Go.Proofs.YtckidlbmoalomaaGreatDoor
open Go.RowKit
set_option maxRecDepth 10000
set_option linter.unusedSimpArgs false
set_option linter.unusedVariables false

section
variable {r b : Nat} {T : List Tk}
def srcMore (K : Knot) (left : Tr) (word : ByteArray) : SM Tr := do
  if word = w_left then do
    wantS w_join
    joinS K left 4
  else joinS K left 3
theorem join_eq (K : Knot) (left : Tr) (k : Int) (s : Sy) : joinS K left k s = (mkF k false eB eB [] [left, (oneS K s).1] [(K.or (wantS w_on (oneS K s).2).2).1], (K.or (wantS w_on (oneS K s).2).2).2) := rfl
theorem srcMore_t {K : Knot} {left : Tr} {x : ByteArray} (c : x = w_left) (s : Sy) : srcMore K left x s = joinS K left 4 (wantS w_join s).2 := by
  unfold srcMore
  rw [if_pos c]
  rfl
theorem srcMore_f {K : Knot} {left : Tr} {x : ByteArray} (c : ¬ x = w_left) (s : Sy) : srcMore K left x s = joinS K left 3 s := by
  unfold srcMore
  rw [if_neg c]
theorem source1_c (hW : WordOK) {K : Knot} {d : Int} (hK : KOK K r b T d) (k : Nat) (σ : AW) (s : Sy) (lo : Nat) (v p : Value) (x : ByteArray) (he : σ.get k = ⟨1, 50, 0, [.pointer (some ⟨r, 0, none⟩)]⟩ ∧ k < σ.next ∧ k ≠ r) (h : RdS σ r b T d s) (hlo : lo ≤ σ.next) (hv : TE 7 σ (fun k => lo ≤ k) v p) :
    C Tryz.prog 96 ([] ++ [v, .string x] ++ [.pointer (some ⟨k, 0, none⟩)]) σ fun v' σ' => TE 7 σ' (fun k => lo ≤ k) v' (srcMore K p x s).1 ∧ RdS σ' r b T d (srcMore K p x s).2 ∧ Gr r σ σ' := by
  obtain ⟨gk, hk, hkr⟩ := he
  have hlr := h.lr
  have hlb := h.lb
  obtain ⟨t1, l, rfl, hl, ho⟩ := hv
  have t1 : TE 7 σ (fun k => lo ≤ k) (.agg ⟨l⟩) p := ⟨t1, l, rfl, hl, ho⟩
  refine C_enter rfl Tryz.func96 rfl Tryz.ntmps96 Tryz.results96 (Nat.le_of_ble_eq_true rfl) ?_; intro A hz hA; have a0 := hA 0 _ rfl; have a1 := hA 1 _ rfl; have a2 := hA 2 _ rfl; clear hA
  have w1 : ∀ B1 B2 B3 B4 : Blk, Ow σ.next σ ((((σ.push B1).push B2).push B3).set (σ.next + 1 + 1) B4) := fun _ _ _ _ => ((((Ow.refl σ.next σ).push _).push _).push _).set (by omega) _
  have e1 : ∀ B1 B2 B3 B4 : Blk, Ks σ ((((σ.push B1).push B2).push B3).set (σ.next + 1 + 1) B4) := fun _ _ _ _ => ((((Ks.refl σ).push _).push _).push _).set (.inl (by omega)) _
  have n1 : ∀ B1 B2 B3 B4 : Blk, ((((σ.push B1).push B2).push B3).set (σ.next + 1 + 1) B4).get σ.next = B1 := fun _ _ _ _ => by rw [set_ne (by omega), push_ne (by first | omega | (simp only [push_next, set_next]; first | done | omega)), push_ne (by first | omega | (simp only [push_next, set_next]; first | done | omega)), push_eq]
  have m1 : ∀ B1 B2 B3 B4 : Blk, ((((σ.push B1).push B2).push B3).set (σ.next + 1 + 1) B4).get (σ.next + 1) = B2 := fun _ _ _ _ => by rw [set_ne (by omega), push_ne (by first | omega | (simp only [push_next, set_next]; first | done | omega))]; exact push_eq
  have q1 : ∀ B1 B2 B3 B4 : Blk, ((((σ.push B1).push B2).push B3).set (σ.next + 1 + 1) B4).get (σ.next + 1 + 1) = B4 := fun _ _ _ _ => set_eq
  have k1 : ∀ B1 B2 B3 B4 : Blk, ((((σ.push B1).push B2).push B3).set (σ.next + 1 + 1) B4).get k = _ := fun _ _ _ _ => ((w1 _ _ _ _).get k hk hk).trans gk
  by_cases c : x = w_left
  · have c1 : decide (x = ⟨#[108, 101, 102, 116]⟩) = true := decide_eq_true c
    rw [srcMore_t c, join_eq]
    repeat (first | apply s_R | apply o_n | ((first | apply o_p | (refine' o_g rfl rfl ?_ ?_; rotate_left) | apply w_c); (focus simp (disch := first | decide | (try simp only [zz, hz]) <;> omega | fail) only [go_sem, hz, a0, a1, a2, c1, k1, hl, ho] <;> rfl); with_reducible first | apply o_i | apply g_1 | apply g_2 | apply g_3 | apply g_4 | apply c_1 | apply c_2) | apply r_E | apply b_k | apply s_k | apply s_q)
    refine O_call (by simp (disch := first | decide | (try simp only [zz, hz]) <;> omega | fail) only [go_sem, hz, a0, a1, a2, k1] <;> rfl) ?_
    refine C.mono (want_c (h.ow (w1 _ _ _ _) hlr hlb) w_join) ?_
    rintro _ σ1 ⟨h1, g1⟩
    have nx1 := g1.next
    simp only [push_next, set_next] at nx1
    have gN1 := (g1.get σ.next (by first | omega | (simp only [push_next, set_next]; first | done | omega)) (by omega)).trans (n1 _ _ _ _)
    have gM1 := (g1.get (σ.next + 1) (by first | omega | (simp only [push_next, set_next]; first | done | omega)) (by omega)).trans (m1 _ _ _ _)
    have gQ1 := (g1.get (σ.next + 1 + 1) (by first | omega | (simp only [push_next, set_next]; first | done | omega)) (by omega)).trans (q1 _ _ _ _)
    have gK1 := (g1.get k (by first | omega | (simp only [push_next, set_next]; first | done | omega)) hkr).trans (k1 _ _ _ _)
    have e0 := (e1 _ _ _ _).trans (g1.ks (h.ow (w1 _ _ _ _) hlr hlb).ez)
    replace g1 := ((Gr.refl r σ).ow (w1 _ _ _ _)).trans g1
    have wb : ∀ B : Blk, Ow σ.next σ1 (σ1.set (σ.next + 1 + 1) B) := fun _ => (Ow.refl σ.next σ1).set (by omega) _
    have eb : ∀ B : Blk, Ks σ1 (σ1.set (σ.next + 1 + 1) B) := fun _ => (Ks.refl σ1).set (.inr (by rw [gQ1])) _
    have nb : ∀ B : Blk, (σ1.set (σ.next + 1 + 1) B).get σ.next = _ := fun _ => (set_ne (by omega)).trans gN1
    have mb : ∀ B : Blk, (σ1.set (σ.next + 1 + 1) B).get (σ.next + 1) = _ := fun _ => (set_ne (by omega)).trans gM1
    have kb : ∀ B : Blk, (σ1.set (σ.next + 1 + 1) B).get k = _ := fun _ => (set_ne (by omega)).trans gK1
    repeat (first | apply s_R | apply o_n | ((first | apply o_p | (refine' o_g rfl rfl ?_ ?_; rotate_left) | apply w_c); (focus simp (disch := first | decide | (try simp only [zz, hz]) <;> omega | fail) only [go_sem, hz, a0, a1, a2, gQ1] <;> rfl); with_reducible first | apply o_i | apply g_1 | apply g_2 | apply g_3 | apply g_4 | apply c_1 | apply c_2) | apply r_E | apply b_k | apply s_k | apply s_q)
    refine W_regDE mixed (by kernel_rfl) (by kernel_rfl) ?_
    repeat (apply v_x; (focus simp (disch := first | decide | (try simp only [zz, hz]) <;> omega | fail) only [go_sem, hz, a0, a1, a2, gN1, gM1, gQ1, gK1, nb, mb, kb, hl, ho] <;> rfl); first | refine vX_n ?_ | refine vX_l ?_ | refine vX_e ?_)
    refine V_call (by simp (disch := first | decide | (try simp only [zz, hz]) <;> omega | fail) only [go_sem, hz, a0, a1, a2] <;> rfl) ?_
    refine C.mono (one_c hW hK _ _ trivial (h1.ow (wb _) hlr hlb)) ?_
    rintro _ σ2 ⟨⟨t2, l2, rfl, hl2, ho2⟩, h2, g2⟩
    have t2 : TE 7 σ2 _ (.agg ⟨l2⟩) _ := ⟨t2, l2, rfl, hl2, ho2⟩
    have nx2 := g2.next
    simp only [push_next, set_next] at nx2
    have gN2 := (g2.get σ.next (by first | omega | (simp only [push_next, set_next]; first | done | omega)) (by omega)).trans (nb _)
    have gM2 := (g2.get (σ.next + 1) (by first | omega | (simp only [push_next, set_next]; first | done | omega)) (by omega)).trans (mb _)
    have gQ2 := (g2.get (σ.next + 1 + 1) (by first | omega | (simp only [push_next, set_next]; first | done | omega)) (by omega)).trans set_eq
    have gK2 := (g2.get k (by first | omega | (simp only [push_next, set_next]; first | done | omega)) hkr).trans (kb _)
    have t2a := ((t1.ks e0).ks (eb _)).ks (g2.ks (h1.ow (wb _) hlr hlb).ez)
    replace g2 := (g1.ow (wb _)).trans g2
    have p2 : ∀ B1 : Blk, (σ2.push B1).get (σ.next + 1 + 1) = _ := fun _ => (push_ne (by omega)).trans gQ2
    repeat (apply v_x; (focus simp (disch := first | decide | (try simp only [zz, hz]) <;> omega | fail) only [go_sem, hz, a0, a1, a2, gN2, gK2, gQ2, p2, hl, ho, hl2, ho2] <;> rfl); first | refine vX_n ?_ | refine vX_l ?_ | refine vX_e ?_)
    refine V_nil ?_; refine And.intro (owes_by (L := [(0, 0), (0, 3), (1, 0)]) ?_ ?_) ?_; rotate_left 2; (try simp only [Then, Out, JumpL]); rotate_right 2; focus (kernel_rfl)
    · (repeat (refine owe_cons (Owed_op rfl rfl rfl rfl rfl (by simp (disch := first | decide | (try simp only [zz, hz]) <;> omega | fail) only [go_sem, hz, a0, a1, a2, gN1, gM1, gQ1, gK1, nb, mb, kb, gN2, gK2, hl, ho] <;> rfl)) ?_)); exact owe_nil
    have w3 : ∀ B1 B2 : Blk, Ow σ.next σ2 ((σ2.push B1).set (σ.next + 1 + 1) B2) := fun _ _ => ((Ow.refl σ.next σ2).push _).set (by omega) _
    have e3 : ∀ B1 B2 : Blk, Ks σ2 ((σ2.push B1).set (σ.next + 1 + 1) B2) := fun _ _ => ((Ks.refl σ2).push _).set (.inr (by rw [gQ2])) _
    have gK3 : ∀ B1 B2 : Blk, ((σ2.push B1).set (σ.next + 1 + 1) B2).get k = _ := fun _ _ => ((w3 _ _).get k (by omega) hk).trans gK2
    repeat (first | apply s_R | apply o_n | ((first | apply o_p | (refine' o_g rfl rfl ?_ ?_; rotate_left) | apply w_c); (focus simp (disch := first | decide | (try simp only [zz, hz]) <;> omega | fail) only [go_sem, hz, a0, a1, a2, gK3] <;> rfl); with_reducible first | apply o_i | apply g_1 | apply g_2 | apply g_3 | apply g_4 | apply c_1 | apply c_2) | apply r_E | apply b_k | apply s_k | apply s_q)
    refine O_call (by simp (disch := first | decide | (try simp only [zz, hz]) <;> omega | fail) only [go_sem, hz, a0, a1, a2, gK3] <;> rfl) ?_
    refine C.mono (want_c (h2.ow (w3 _ _) hlr hlb) w_on) ?_
    rintro _ σ4 ⟨h4, g4⟩
    have nx4 := g4.next
    simp only [push_next, set_next] at nx4
    have gM4 := (g4.get (σ.next + 1) (by first | omega | (simp only [push_next, set_next]; first | done | omega)) (by omega)).trans ((set_ne (by omega)).trans ((push_ne (by omega)).trans gM2))
    have gQ4 := (g4.get (σ.next + 1 + 1) (by first | omega | (simp only [push_next, set_next]; first | done | omega)) (by omega)).trans set_eq
    have gK4 := (g4.get k (by first | omega | (simp only [push_next, set_next]; first | done | omega)) hkr).trans (gK3 _ _)
    have e4 := (e3 _ _).trans (g4.ks (h2.ow (w3 _ _) hlr hlb).ez)
    have gL4 := (g4.get σ2.next (by first | omega | (simp only [push_next, set_next]; first | done | omega)) (by omega)).trans ((set_ne (by omega)).trans push_eq)
    have r4 := rd_lit2 (c := 4) gL4 (by decide) (by omega) (show (fun k => lo ≤ k) σ2.next by omega) (t2a.ks e4) ((t2.ks e4).lo (fun j hj => by have := hj; simp only [push_next, set_next] at this; omega))
    replace g4 := (g2.ow (w3 _ _)).trans g4
    repeat (first | apply s_R | apply o_n | ((first | apply o_p | (refine' o_g rfl rfl ?_ ?_; rotate_left) | apply w_c); (focus simp (disch := first | decide | (try simp only [zz, hz]) <;> omega | fail) only [go_sem, hz, a0, a1, a2, gK4] <;> rfl); with_reducible first | apply o_i | apply g_1 | apply g_2 | apply g_3 | apply g_4 | apply c_1 | apply c_2) | apply r_E | apply b_k | apply s_k | apply s_q)
    refine O_call (by simp (disch := first | decide | (try simp only [zz, hz]) <;> omega | fail) only [go_sem, hz, a0, a1, a2, gK4] <;> rfl) ?_
    refine C.mono (hK.or _ _ trivial h4) ?_
    rintro _ σ5 ⟨⟨t5, l5, rfl, hl5, ho5⟩, h5, g5⟩
    have t5 : TE 6 σ5 _ (.agg ⟨l5⟩) _ := ⟨t5, l5, rfl, hl5, ho5⟩
    have nx5 := g5.next
    have gM5 := (g5.get (σ.next + 1) (by omega) (by omega)).trans gM4
    have gQ5 := (g5.get (σ.next + 1 + 1) (by omega) (by omega)).trans gQ4
    have r5 := r4.ks (g5.ks h4.ez)
    replace g5 := g4.trans g5
    have p5 : ∀ B1 : Blk, (σ5.push B1).get (σ.next + 1 + 1) = _ := fun _ => (push_ne (by omega)).trans gQ5
    have p6 : ∀ B1 B2 : Blk, ((σ5.push B1).set (σ.next + 1 + 1) B2).get (σ.next + 1) = _ := fun _ _ => (set_ne (by omega)).trans ((push_ne (by omega)).trans gM5)
    repeat (first | apply s_R | apply o_n | ((first | apply o_p | (refine' o_g rfl rfl ?_ ?_; rotate_left) | apply w_c); (focus simp (disch := first | decide | (try simp only [zz, hz]) <;> omega | fail) only [go_sem, hz, a0, a1, a2, p5, p6, hl5, ho5] <;> rfl); with_reducible first | apply o_i | apply g_1 | apply g_2 | apply g_3 | apply g_4 | apply c_1 | apply c_2) | apply r_E | apply b_k | apply s_k | apply s_q)
    refine W_ret ?_; (try simp only [Then, Out, Jump, JumpL]); refine ret_mk (by simp (disch := first | decide | (try simp only [zz, hz]) <;> omega | fail) only [go_sem, hz, p5, p6] <;> rfl) ?_; (try simp only [resultA])
    have w6 : ∀ B1 B2 B3 : Blk, Ow σ.next σ5 (((σ5.push B1).set (σ.next + 1 + 1) B2).set (σ.next + 1) B3) := fun _ _ _ => (((Ow.refl σ.next σ5).push _).set (by omega) _).set (by omega) _
    have e6 : ∀ B1 B2 B3 : Blk, Ks σ5 (((σ5.push B1).set (σ.next + 1 + 1) B2).set (σ.next + 1) B3) := fun _ _ _ => (((Ks.refl σ5).push _).set (.inr (by rw [gQ5])) _).set (.inr (by rw [gM5])) _
    exact ⟨te_mkF (rd_nil _ _ _) (r5.ks (e6 _ _ _)) (rd_lit1 (e := 37) (z := 1) (by simp (disch := first | decide | (try simp only [zz, hz]) <;> omega | fail) only [go_sem, hz] <;> rfl) (by decide) (by first | omega | (simp only [push_next, set_next]; first | done | omega)) (by first | omega | (simp only [push_next, set_next]; first | done | omega)) ((t5.ks (e6 _ _ _)).lo (fun j hj => by have := hj; omega))), h5.ow (w6 _ _ _) hlr hlb, g5.ow (w6 _ _ _)⟩
  · have c1 : decide (x = ⟨#[108, 101, 102, 116]⟩) = false := decide_eq_false c
    rw [srcMore_f c, join_eq]
    repeat (first | apply s_R | apply o_n | ((first | apply o_p | (refine' o_g rfl rfl ?_ ?_; rotate_left) | apply w_c); (focus simp (disch := first | decide | (try simp only [zz, hz]) <;> omega | fail) only [go_sem, hz, a0, a1, a2, c1, hl, ho] <;> rfl); with_reducible first | apply o_i | apply g_1 | apply g_2 | apply g_3 | apply g_4 | apply c_1 | apply c_2) | apply r_E | apply b_k | apply s_k | apply s_q)
    refine W_regDE mixed (by kernel_rfl) (by kernel_rfl) ?_
    repeat (apply v_x; (focus simp (disch := first | decide | (try simp only [zz, hz]) <;> omega | fail) only [go_sem, hz, a0, a1, a2, n1, m1, q1, k1, hl, ho] <;> rfl); first | refine vX_n ?_ | refine vX_l ?_ | refine vX_e ?_)
    refine V_call (by simp (disch := first | decide | (try simp only [zz, hz]) <;> omega | fail) only [go_sem, hz, a0, a1, a2] <;> rfl) ?_
    refine C.mono (one_c hW hK _ _ trivial (h.ow (w1 _ _ _ _) hlr hlb)) ?_
    rintro _ σ2 ⟨⟨t2, l2, rfl, hl2, ho2⟩, h2, g2⟩
    have t2 : TE 7 σ2 _ (.agg ⟨l2⟩) _ := ⟨t2, l2, rfl, hl2, ho2⟩
    have nx2 := g2.next
    simp only [push_next, set_next] at nx2
    have gN2 := (g2.get σ.next (by first | omega | (simp only [push_next, set_next]; first | done | omega)) (by omega)).trans (n1 _ _ _ _)
    have gM2 := (g2.get (σ.next + 1) (by first | omega | (simp only [push_next, set_next]; first | done | omega)) (by omega)).trans (m1 _ _ _ _)
    have gQ2 := (g2.get (σ.next + 1 + 1) (by first | omega | (simp only [push_next, set_next]; first | done | omega)) (by omega)).trans (q1 _ _ _ _)
    have gK2 := (g2.get k (by first | omega | (simp only [push_next, set_next]; first | done | omega)) hkr).trans (k1 _ _ _ _)
    have t2a := (t1.ks (e1 _ _ _ _)).ks (g2.ks (h.ow (w1 _ _ _ _) hlr hlb).ez)
    replace g2 := ((Gr.refl r σ).ow (w1 _ _ _ _)).trans g2
    have p2 : ∀ B1 : Blk, (σ2.push B1).get (σ.next + 1 + 1) = _ := fun _ => (push_ne (by omega)).trans gQ2
    repeat (apply v_x; (focus simp (disch := first | decide | (try simp only [zz, hz]) <;> omega | fail) only [go_sem, hz, a0, a1, a2, gN2, gK2, gQ2, p2, hl, ho, hl2, ho2] <;> rfl); first | refine vX_n ?_ | refine vX_l ?_ | refine vX_e ?_)
    refine V_nil ?_; refine And.intro (owes_by (L := [(0, 0), (0, 3), (1, 0)]) ?_ ?_) ?_; rotate_left 2; (try simp only [Then, Out, JumpL]); rotate_right 2; focus (kernel_rfl)
    · (repeat (refine owe_cons (Owed_op rfl rfl rfl rfl rfl (by simp (disch := first | decide | (try simp only [zz, hz]) <;> omega | fail) only [go_sem, hz, a0, a1, a2, n1, m1, q1, k1, gN2, gK2, hl, ho] <;> rfl)) ?_)); exact owe_nil
    have w3 : ∀ B1 B2 : Blk, Ow σ.next σ2 ((σ2.push B1).set (σ.next + 1 + 1) B2) := fun _ _ => ((Ow.refl σ.next σ2).push _).set (by omega) _
    have e3 : ∀ B1 B2 : Blk, Ks σ2 ((σ2.push B1).set (σ.next + 1 + 1) B2) := fun _ _ => ((Ks.refl σ2).push _).set (.inr (by rw [gQ2])) _
    have gK3 : ∀ B1 B2 : Blk, ((σ2.push B1).set (σ.next + 1 + 1) B2).get k = _ := fun _ _ => ((w3 _ _).get k (by omega) hk).trans gK2
    repeat (first | apply s_R | apply o_n | ((first | apply o_p | (refine' o_g rfl rfl ?_ ?_; rotate_left) | apply w_c); (focus simp (disch := first | decide | (try simp only [zz, hz]) <;> omega | fail) only [go_sem, hz, a0, a1, a2, gK3] <;> rfl); with_reducible first | apply o_i | apply g_1 | apply g_2 | apply g_3 | apply g_4 | apply c_1 | apply c_2) | apply r_E | apply b_k | apply s_k | apply s_q)
    refine O_call (by simp (disch := first | decide | (try simp only [zz, hz]) <;> omega | fail) only [go_sem, hz, a0, a1, a2, gK3] <;> rfl) ?_
    refine C.mono (want_c (h2.ow (w3 _ _) hlr hlb) w_on) ?_
    rintro _ σ4 ⟨h4, g4⟩
    have nx4 := g4.next
    simp only [push_next, set_next] at nx4
    have gM4 := (g4.get (σ.next + 1) (by first | omega | (simp only [push_next, set_next]; first | done | omega)) (by omega)).trans ((set_ne (by omega)).trans ((push_ne (by omega)).trans gM2))
    have gQ4 := (g4.get (σ.next + 1 + 1) (by first | omega | (simp only [push_next, set_next]; first | done | omega)) (by omega)).trans set_eq
    have gK4 := (g4.get k (by first | omega | (simp only [push_next, set_next]; first | done | omega)) hkr).trans (gK3 _ _)
    have e4 := (e3 _ _).trans (g4.ks (h2.ow (w3 _ _) hlr hlb).ez)
    have gL4 := (g4.get σ2.next (by first | omega | (simp only [push_next, set_next]; first | done | omega)) (by omega)).trans ((set_ne (by omega)).trans push_eq)
    have r4 := rd_lit2 (c := 4) gL4 (by decide) (by omega) (show (fun k => lo ≤ k) σ2.next by omega) (t2a.ks e4) ((t2.ks e4).lo (fun j hj => by have := hj; simp only [push_next, set_next] at this; omega))
    replace g4 := (g2.ow (w3 _ _)).trans g4
    repeat (first | apply s_R | apply o_n | ((first | apply o_p | (refine' o_g rfl rfl ?_ ?_; rotate_left) | apply w_c); (focus simp (disch := first | decide | (try simp only [zz, hz]) <;> omega | fail) only [go_sem, hz, a0, a1, a2, gK4] <;> rfl); with_reducible first | apply o_i | apply g_1 | apply g_2 | apply g_3 | apply g_4 | apply c_1 | apply c_2) | apply r_E | apply b_k | apply s_k | apply s_q)
    refine O_call (by simp (disch := first | decide | (try simp only [zz, hz]) <;> omega | fail) only [go_sem, hz, a0, a1, a2, gK4] <;> rfl) ?_
    refine C.mono (hK.or _ _ trivial h4) ?_
    rintro _ σ5 ⟨⟨t5, l5, rfl, hl5, ho5⟩, h5, g5⟩
    have t5 : TE 6 σ5 _ (.agg ⟨l5⟩) _ := ⟨t5, l5, rfl, hl5, ho5⟩
    have nx5 := g5.next
    have gM5 := (g5.get (σ.next + 1) (by omega) (by omega)).trans gM4
    have gQ5 := (g5.get (σ.next + 1 + 1) (by omega) (by omega)).trans gQ4
    have r5 := r4.ks (g5.ks h4.ez)
    replace g5 := g4.trans g5
    have p5 : ∀ B1 : Blk, (σ5.push B1).get (σ.next + 1 + 1) = _ := fun _ => (push_ne (by omega)).trans gQ5
    have p6 : ∀ B1 B2 : Blk, ((σ5.push B1).set (σ.next + 1 + 1) B2).get (σ.next + 1) = _ := fun _ _ => (set_ne (by omega)).trans ((push_ne (by omega)).trans gM5)
    repeat (first | apply s_R | apply o_n | ((first | apply o_p | (refine' o_g rfl rfl ?_ ?_; rotate_left) | apply w_c); (focus simp (disch := first | decide | (try simp only [zz, hz]) <;> omega | fail) only [go_sem, hz, a0, a1, a2, p5, p6, hl5, ho5] <;> rfl); with_reducible first | apply o_i | apply g_1 | apply g_2 | apply g_3 | apply g_4 | apply c_1 | apply c_2) | apply r_E | apply b_k | apply s_k | apply s_q)
    refine W_ret ?_; (try simp only [Then, Out, Jump, JumpL]); refine ret_mk (by simp (disch := first | decide | (try simp only [zz, hz]) <;> omega | fail) only [go_sem, hz, p5, p6] <;> rfl) ?_; (try simp only [resultA])
    have w6 : ∀ B1 B2 B3 : Blk, Ow σ.next σ5 (((σ5.push B1).set (σ.next + 1 + 1) B2).set (σ.next + 1) B3) := fun _ _ _ => (((Ow.refl σ.next σ5).push _).set (by omega) _).set (by omega) _
    have e6 : ∀ B1 B2 B3 : Blk, Ks σ5 (((σ5.push B1).set (σ.next + 1 + 1) B2).set (σ.next + 1) B3) := fun _ _ _ => (((Ks.refl σ5).push _).set (.inr (by rw [gQ5])) _).set (.inr (by rw [gM5])) _
    exact ⟨te_mkF (rd_nil _ _ _) (r5.ks (e6 _ _ _)) (rd_lit1 (e := 37) (z := 1) (by simp (disch := first | decide | (try simp only [zz, hz]) <;> omega | fail) only [go_sem, hz] <;> rfl) (by decide) (by first | omega | (simp only [push_next, set_next]; first | done | omega)) (by first | omega | (simp only [push_next, set_next]; first | done | omega)) ((t5.ks (e6 _ _ _)).lo (fun j hj => by have := hj; omega))), h5.ow (w6 _ _ _) hlr hlb, g5.ow (w6 _ _ _)⟩
theorem source_c (hW : WordOK) {K : Knot} {d : Int} (hK : KOK K r b T d) : Reads (fun _ => True) 7 r b T d 70 [.pointer (some ⟨r, 0, none⟩)] (sourceS K) := by
  intro σ s he h
  have hlr := h.lr
  have hlb := h.lb
  have hsh : ∀ p x, Shr (srcMore K p x) := fun p x => .ite ((Shr.want _).bind fun _ => shr_join hK.sh _ _) (shr_join hK.sh _ _)
  have e : sourceS K s = fromLeftS (srcMore K) [w_left, w_join] (oneS K s).1 (oneS K s).2 := rfl
  rw [e]
  refine C_enter rfl Tryz.func70 rfl Tryz.ntmps70 Tryz.results70 (Nat.le_of_ble_eq_true rfl) ?_; intro A hz hA; have a0 := hA 0 _ rfl; clear hA
  repeat (first | apply s_R | apply o_n | ((first | apply o_p | (refine' o_g rfl rfl ?_ ?_; rotate_left) | apply w_c); (focus simp (disch := first | decide | (try simp only [zz, hz]) <;> omega | fail) only [go_sem, hz, a0] <;> rfl); with_reducible first | apply o_i | apply g_1 | apply g_2 | apply g_3 | apply g_4 | apply c_1 | apply c_2) | apply r_E | apply b_k | apply s_k | apply s_q)
  refine W_regDE mixed (by kernel_rfl) (floatFit_by (i := 4) (d := 7) (by kernel_rfl) rfl rfl (by simp only [put_size, hz]; decide)) ?_
  repeat (apply v_x; (focus simp (disch := first | decide | (try simp only [zz, hz]) <;> omega | fail) only [go_sem, hz, a0] <;> rfl); first | refine vX_n ?_ | refine vX_l ?_ | refine vX_e ?_)
  refine V_call (by simp (disch := first | decide | (try simp only [zz, hz]) <;> omega | fail) only [go_sem, hz, a0] <;> rfl) ?_
  refine C.mono (one_c hW hK _ _ trivial (h.kp (((Kp.refl σ).push _).push _))) ?_
  rintro _ σ2 ⟨⟨t2, l2, rfl, hl2, ho2⟩, h2, g2⟩
  have t2 : TE 7 σ2 _ (.agg ⟨l2⟩) _ := ⟨t2, l2, rfl, hl2, ho2⟩
  have nx2 := g2.next
  simp only [push_next] at nx2
  have gN2 := (g2.get σ.next (by first | omega | (simp only [push_next, set_next]; first | done | omega)) (by omega)).trans ((push_ne (by first | omega | (simp only [push_next, set_next]; first | done | omega))).trans push_eq)
  have gM2 := (g2.get (σ.next + 1) (by first | omega | (simp only [push_next, set_next]; first | done | omega)) (by omega)).trans push_eq
  have p2 : ∀ B : Blk, (σ2.push B).get σ.next = _ := fun _ => (push_ne (by omega)).trans gN2
  repeat (apply v_x; (focus simp (disch := first | decide | (try simp only [zz, hz]) <;> omega | fail) only [go_sem, hz, a0, gN2, p2] <;> rfl); first | refine vX_n ?_ | refine vX_l ?_ | refine vX_e ?_)
  refine V_call (by simp (disch := first | decide | (try simp only [zz, hz]) <;> omega | fail) only [go_sem, hz, a0] <;> rfl) ?_
  refine C.mono (fromF_c (fs := []) (cs := [.pointer (some ⟨σ.next, 0, none⟩)]) (E := fun τ => τ.get σ.next = ⟨1, 50, 0, [.pointer (some ⟨r, 0, none⟩)]⟩ ∧ σ.next < τ.next ∧ σ.next ≠ r) (fun τ τ' he g => ⟨(g.get _ he.2.1 he.2.2).trans he.1, Nat.lt_of_lt_of_le he.2.1 g.next, he.2.2⟩) (ws := [w_left, w_join]) (Nat.le_of_ble_eq_true rfl) hsh (fun τ s' lo v p x he h hlo hv _ => source1_c hW hK _ τ s' lo v p x he h hlo hv) ⟨p2 _, by first | omega | (simp only [push_next, set_next]; first | done | omega), by omega⟩ (h2.kp ((Kp.refl σ2).push _)) (lo := σ.next) (by first | omega | (simp only [push_next, set_next]; first | done | omega)) ((t2.ks ((Ks.refl σ2).push _)).lo (fun j hj => by have := hj; simp only [push_next] at this; omega)) (e := 9) (z := 1) (by simp (disch := first | decide | (try simp only [zz, hz]) <;> omega | fail) only [go_sem, hz] <;> rfl) (by first | omega | (simp only [push_next, set_next]; first | done | omega)) (by first | omega | (simp only [push_next, set_next]; first | done | omega))) ?_
  rintro _ σ3 ⟨⟨t3, l3, rfl, hl3, ho3⟩, h3, g3⟩
  have nx3 := g3.next
  simp only [push_next] at nx3
  have gN3 := (g3.get σ.next (by first | omega | (simp only [push_next, set_next]; first | done | omega)) (by omega)).trans (p2 _)
  have gM3 := (g3.get (σ.next + 1) (by first | omega | (simp only [push_next, set_next]; first | done | omega)) (by omega)).trans ((push_ne (by omega)).trans gM2)
  repeat (apply v_x; (focus simp (disch := first | decide | (try simp only [zz, hz]) <;> omega | fail) only [go_sem, hz, a0, gN3, gM3, hl3, ho3] <;> rfl); first | refine vX_n ?_ | refine vX_l ?_ | refine vX_e ?_)
  refine V_nil ?_; refine And.intro (owes_by (L := [(0, 0), (0, 3), (0, 5), (1, 0)]) ?_ ?_) ?_; rotate_left 2; (try simp only [Then, Out, JumpL]); rotate_right 2; focus (kernel_rfl)
  · (repeat (refine owe_cons (Owed_op rfl rfl rfl rfl rfl (by simp (disch := first | decide | (try simp only [zz, hz]) <;> omega | fail) only [go_sem, hz, a0, gN2, gN3, p2] <;> rfl)) ?_)); exact owe_nil
  refine W_ret ?_; (try simp only [Then, Out, Jump, JumpL]); refine ret_mk (by simp (disch := first | decide | (try simp only [zz, hz]) <;> omega | fail) only [go_sem, hz, gM3, hl3] <;> rfl) ?_; (try simp only [resultA])
  exact post_fin ((Ow.refl _ _).set (by omega) _) (g2.unpush.unpush.trans g3.unpush) h3 hlr hlb ((TE.ks ⟨t3, l3, rfl, hl3, ho3⟩ ((Ks.refl σ3).set (.inr (by rw [gM3])) _)))
def prtMore (K : Knot) (left : Tr) (word : ByteArray) : SM Tr := do
  let k ← togetherS word
  let y ← partS K
  pure (mkQ k false (-1) [] [] [] [] [] [] [left, y])
theorem prt_eq (K : Knot) (left : Tr) (x : ByteArray) (s : Sy) : prtMore K left x s = (mkQ (togetherS x s).1 false (-1) [] [] [] [] [] [] [left, (partS K (togetherS x s).2).1], (partS K (togetherS x s).2).2) := rfl
theorem parts1_c {K : Knot} {d : Int} (hP : Reads (fun _ => True) 10 r b T d 39 [.pointer (some ⟨r, 0, none⟩)] (partS K)) (k : Nat) (σ : AW) (s : Sy) (lo : Nat) (v p : Value) (x : ByteArray) (he : σ.get k = ⟨1, 50, 0, [.pointer (some ⟨r, 0, none⟩)]⟩ ∧ k < σ.next ∧ k ≠ r) (h : RdS σ r b T d s) (hlo : lo ≤ σ.next) (hv : TE 10 σ (fun k => lo ≤ k) v p) :
    C Tryz.prog 40 ([] ++ [v, .string x] ++ [.pointer (some ⟨k, 0, none⟩)]) σ fun v' σ' => TE 10 σ' (fun k => lo ≤ k) v' (prtMore K p x s).1 ∧ RdS σ' r b T d (prtMore K p x s).2 ∧ Gr r σ σ' := by
  obtain ⟨gk, hk, hkr⟩ := he
  have hlr := h.lr
  have hlb := h.lb
  obtain ⟨t1, l, rfl, hl, ho⟩ := hv
  have t1 : TE 10 σ (fun k => lo ≤ k) (.agg ⟨l⟩) p := ⟨t1, l, rfl, hl, ho⟩
  rw [prt_eq]
  refine C_enter rfl Tryz.func40 rfl Tryz.ntmps40 Tryz.results40 (Nat.le_of_ble_eq_true rfl) ?_; intro A hz hA; have a0 := hA 0 _ rfl; have a1 := hA 1 _ rfl; have a2 := hA 2 _ rfl; clear hA
  repeat (first | apply s_R | apply o_n | ((first | apply o_p | (refine' o_g rfl rfl ?_ ?_; rotate_left) | apply w_c); (focus simp (disch := first | decide | (try simp only [zz, hz]) <;> omega | fail) only [go_sem, hz, a0, a1, a2, gk, hl, ho] <;> rfl); with_reducible first | apply o_i | apply g_1 | apply g_2 | apply g_3 | apply g_4 | apply c_1 | apply c_2) | apply r_E | apply b_k | apply s_k | apply s_q)
  refine O_call (by simp (disch := first | decide | (try simp only [zz, hz]) <;> omega | fail) only [go_sem, hz, a0, a1, a2, gk] <;> rfl) ?_
  refine C.mono (together_c (h.kp (((Kp.refl σ).push _).push _)) x) ?_
  rintro _ σ1 ⟨rfl, h1, g1⟩
  have nx1 := g1.next
  simp only [push_next] at nx1
  have gN1 := (g1.get σ.next (by first | omega | (simp only [push_next, set_next]; first | done | omega)) (by omega)).trans ((push_ne (by first | omega | (simp only [push_next, set_next]; first | done | omega))).trans push_eq)
  have gM1 := (g1.get (σ.next + 1) (by first | omega | (simp only [push_next, set_next]; first | done | omega)) (by omega)).trans push_eq
  have gK1 := (g1.unpush.unpush.get k hk hkr).trans gk
  have t1a := (t1.ks (((Ks.refl σ).push _).push _)).ks (g1.ks (h.kp (((Kp.refl σ).push _).push _)).ez)
  replace g1 := g1.unpush.unpush
  repeat (first | apply s_R | apply o_n | ((first | apply o_p | (refine' o_g rfl rfl ?_ ?_; rotate_left) | apply w_c); (focus simp (disch := first | decide | (try simp only [zz, hz]) <;> omega | fail) only [go_sem, hz, a0, a1, a2] <;> rfl); with_reducible first | apply o_i | apply g_1 | apply g_2 | apply g_3 | apply g_4 | apply c_1 | apply c_2) | apply r_E | apply b_k | apply s_k | apply s_q)
  refine W_regDE mixed (by kernel_rfl) (by kernel_rfl) ?_
  repeat (apply v_x; (focus simp (disch := first | decide | (try simp only [zz, hz]) <;> omega | fail) only [go_sem, hz, a0, a1, a2, gN1, gK1, hl, ho] <;> rfl); first | refine vX_n ?_ | refine vX_l ?_ | refine vX_e ?_)
  refine V_call (by simp (disch := first | decide | (try simp only [zz, hz]) <;> omega | fail) only [go_sem, hz, a0, a1, a2] <;> rfl) ?_
  refine C.mono (hP _ _ trivial h1) ?_
  rintro _ σ2 ⟨⟨t2, l2, rfl, hl2, ho2⟩, h2, g2⟩
  have t2 : TE 10 σ2 _ (.agg ⟨l2⟩) _ := ⟨t2, l2, rfl, hl2, ho2⟩
  have nx2 := g2.next
  have gN2 := (g2.get σ.next (by omega) (by omega)).trans gN1
  have gM2 := (g2.get (σ.next + 1) (by omega) (by omega)).trans gM1
  have gK2 := (g2.get k (by omega) hkr).trans gK1
  have t2a := t1a.ks (g2.ks h1.ez)
  replace g2 := g1.trans g2
  have p2 : ∀ B1 : Blk, (σ2.push B1).get (σ.next + 1) = _ := fun _ => (push_ne (by omega)).trans gM2
  repeat (apply v_x; (focus simp (disch := first | decide | (try simp only [zz, hz]) <;> omega | fail) only [go_sem, hz, a0, a1, a2, gN2, gK2, p2, hl, ho, hl2, ho2] <;> rfl); first | refine vX_n ?_ | refine vX_l ?_ | refine vX_e ?_)
  refine V_nil ?_; refine And.intro (owes_by (L := [(1, 0), (1, 4), (2, 0)]) ?_ ?_) ?_; rotate_left 2; (try simp only [Then, Out, JumpL]); rotate_right 2; focus (kernel_rfl)
  · (repeat (refine owe_cons (Owed_op rfl rfl rfl rfl rfl (by simp (disch := first | decide | (try simp only [zz, hz]) <;> omega | fail) only [go_sem, hz, a0, a1, a2, gN1, gK1, gN2, gK2, hl, ho] <;> rfl)) ?_)); exact owe_nil
  refine W_ret ?_; (try simp only [Then, Out, Jump, JumpL]); refine ret_mk (by simp (disch := first | decide | (try simp only [zz, hz]) <;> omega | fail) only [go_sem, hz, p2] <;> rfl) ?_; (try simp only [resultA])
  have w3 : ∀ B1 B2 : Blk, Ow σ.next σ2 ((σ2.push B1).set (σ.next + 1) B2) := fun _ _ => ((Ow.refl σ.next σ2).push _).set (by omega) _
  have e3 : ∀ B1 B2 : Blk, Ks σ2 ((σ2.push B1).set (σ.next + 1) B2) := fun _ _ => ((Ks.refl σ2).push _).set (.inr (by rw [gM2])) _
  exact ⟨te_mkQ (rd_nil _ _ _) (rd_nil _ _ _) (rd_nil _ _ _) (rd_nil _ _ _) (rd_nil _ _ _) (rd_nil _ _ _) (rd_lit2 (e := 44) (z := 1) (by simp (disch := first | decide | (try simp only [zz, hz]) <;> omega | fail) only [go_sem, hz] <;> rfl) (by decide) (by first | omega | (simp only [push_next, set_next]; first | done | omega)) (by first | omega | (simp only [push_next, set_next]; first | done | omega)) (t2a.ks (e3 _ _)) ((t2.ks (e3 _ _)).lo (fun j hj => by have := hj; omega))), h2.ow (w3 _ _) hlr hlb, g2.ow (w3 _ _)⟩
theorem parts_c {K : Knot} {d : Int} (hK : KOK K r b T d) (hP : Reads (fun _ => True) 10 r b T d 39 [.pointer (some ⟨r, 0, none⟩)] (partS K)) : Reads (fun _ => True) 10 r b T d 21 [.pointer (some ⟨r, 0, none⟩)] (partsS K) := by
  intro σ s he h
  have hlr := h.lr
  have hlb := h.lb
  have hsh : ∀ p x, Shr (prtMore K p x) := fun p x => (shr_together _).bind fun _ => (shr_part hK.sh).bind fun _ => .pure _
  have e : partsS K s = fromLeftS (prtMore K) [w_union, w_except, w_intersect] (partS K s).1 (partS K s).2 := rfl
  rw [e]
  refine C_enter rfl Tryz.func21 rfl Tryz.ntmps21 Tryz.results21 (Nat.le_of_ble_eq_true rfl) ?_; intro A hz hA; have a0 := hA 0 _ rfl; clear hA
  repeat (first | apply s_R | apply o_n | ((first | apply o_p | (refine' o_g rfl rfl ?_ ?_; rotate_left) | apply w_c); (focus simp (disch := first | decide | (try simp only [zz, hz]) <;> omega | fail) only [go_sem, hz, a0] <;> rfl); with_reducible first | apply o_i | apply g_1 | apply g_2 | apply g_3 | apply g_4 | apply c_1 | apply c_2) | apply r_E | apply b_k | apply s_k | apply s_q)
  refine W_regDE mixed (by kernel_rfl) (floatFit_by (i := 4) (d := 7) (by kernel_rfl) rfl rfl (by simp only [put_size, hz]; decide)) ?_
  repeat (apply v_x; (focus simp (disch := first | decide | (try simp only [zz, hz]) <;> omega | fail) only [go_sem, hz, a0] <;> rfl); first | refine vX_n ?_ | refine vX_l ?_ | refine vX_e ?_)
  refine V_call (by simp (disch := first | decide | (try simp only [zz, hz]) <;> omega | fail) only [go_sem, hz, a0] <;> rfl) ?_
  refine C.mono (hP _ _ trivial (h.kp (((Kp.refl σ).push _).push _))) ?_
  rintro _ σ2 ⟨⟨t2, l2, rfl, hl2, ho2⟩, h2, g2⟩
  have t2 : TE 10 σ2 _ (.agg ⟨l2⟩) _ := ⟨t2, l2, rfl, hl2, ho2⟩
  have nx2 := g2.next
  simp only [push_next] at nx2
  have gN2 := (g2.get σ.next (by first | omega | (simp only [push_next, set_next]; first | done | omega)) (by omega)).trans ((push_ne (by first | omega | (simp only [push_next, set_next]; first | done | omega))).trans push_eq)
  have gM2 := (g2.get (σ.next + 1) (by first | omega | (simp only [push_next, set_next]; first | done | omega)) (by omega)).trans push_eq
  have p2 : ∀ B : Blk, (σ2.push B).get σ.next = _ := fun _ => (push_ne (by omega)).trans gN2
  repeat (apply v_x; (focus simp (disch := first | decide | (try simp only [zz, hz]) <;> omega | fail) only [go_sem, hz, a0, gN2, p2] <;> rfl); first | refine vX_n ?_ | refine vX_l ?_ | refine vX_e ?_)
  refine V_call (by simp (disch := first | decide | (try simp only [zz, hz]) <;> omega | fail) only [go_sem, hz, a0] <;> rfl) ?_
  refine C.mono (fromQ_c (fs := []) (cs := [.pointer (some ⟨σ.next, 0, none⟩)]) (E := fun τ => τ.get σ.next = ⟨1, 50, 0, [.pointer (some ⟨r, 0, none⟩)]⟩ ∧ σ.next < τ.next ∧ σ.next ≠ r) (fun τ τ' he g => ⟨(g.get _ he.2.1 he.2.2).trans he.1, Nat.lt_of_lt_of_le he.2.1 g.next, he.2.2⟩) (ws := [w_union, w_except, w_intersect]) (Nat.le_of_ble_eq_true rfl) hsh (fun τ s' lo v p x he h hlo hv _ => parts1_c hP _ τ s' lo v p x he h hlo hv) ⟨p2 _, by first | omega | (simp only [push_next, set_next]; first | done | omega), by omega⟩ (h2.kp ((Kp.refl σ2).push _)) (lo := σ.next) (by first | omega | (simp only [push_next, set_next]; first | done | omega)) ((t2.ks ((Ks.refl σ2).push _)).lo (fun j hj => by have := hj; simp only [push_next] at this; omega)) (e := 9) (z := 1) (by simp (disch := first | decide | (try simp only [zz, hz]) <;> omega | fail) only [go_sem, hz] <;> rfl) (by first | omega | (simp only [push_next, set_next]; first | done | omega)) (by first | omega | (simp only [push_next, set_next]; first | done | omega))) ?_
  rintro _ σ3 ⟨⟨t3, l3, rfl, hl3, ho3⟩, h3, g3⟩
  have nx3 := g3.next
  simp only [push_next] at nx3
  have gN3 := (g3.get σ.next (by first | omega | (simp only [push_next, set_next]; first | done | omega)) (by omega)).trans (p2 _)
  have gM3 := (g3.get (σ.next + 1) (by first | omega | (simp only [push_next, set_next]; first | done | omega)) (by omega)).trans ((push_ne (by omega)).trans gM2)
  repeat (apply v_x; (focus simp (disch := first | decide | (try simp only [zz, hz]) <;> omega | fail) only [go_sem, hz, a0, gN3, gM3, hl3, ho3] <;> rfl); first | refine vX_n ?_ | refine vX_l ?_ | refine vX_e ?_)
  refine V_nil ?_; refine And.intro (owes_by (L := [(0, 0), (0, 3), (0, 5), (1, 0)]) ?_ ?_) ?_; rotate_left 2; (try simp only [Then, Out, JumpL]); rotate_right 2; focus (kernel_rfl)
  · (repeat (refine owe_cons (Owed_op rfl rfl rfl rfl rfl (by simp (disch := first | decide | (try simp only [zz, hz]) <;> omega | fail) only [go_sem, hz, a0, gN2, gN3, p2] <;> rfl)) ?_)); exact owe_nil
  refine W_ret ?_; (try simp only [Then, Out, Jump, JumpL]); refine ret_mk (by simp (disch := first | decide | (try simp only [zz, hz]) <;> omega | fail) only [go_sem, hz, gM3, hl3] <;> rfl) ?_; (try simp only [resultA])
  exact post_fin ((Ow.refl _ _).set (by omega) _) (g2.unpush.unpush.trans g3.unpush) h3 hlr hlb ((TE.ks ⟨t3, l3, rfl, hl3, ho3⟩ ((Ks.refl σ3).set (.inr (by rw [gM3])) _)))
end
end Go.Proofs.YtckidlbmoalomaaGreatDoor
