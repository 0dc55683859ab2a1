/- The program's reader: a part of a query. The program's reader: all levels. The program's reader of scripts, in plain words. The program's reader: lists of variables, of procedures. -/
import Derived.Test.YtckidlbmoalomaaGreatDoorJ10
import Derived.Test.YtckidlbmoalomaaGreatDoorJ08


namespace Go.Proofs.YtckidlbmoalomaaGreatDoor
open Go.RowKit
set_option maxRecDepth 10000
set_option linter.unusedSimpArgs false
set_option linter.unusedVariables false

section
variable {r b : Nat} {T : List Tk}
theorem part_t (K : Knot) (s : Sy) (c : seesB m_lp s = true) : partS K s = inBracketsS K.parts s := by
  unfold partS
  rw [sees_eq, if_pos c]
def prtSel (K : Knot) : SM Tr := do
    wantS w_select
    let d ← takeS w_distinct
    let items ← listS m_comma (itemS K)
    let froms ← behindS w_from (sourceS K)
    let wh ← behindS w_where K.or
    let gh ← groupS K
    let or ← orderS K
    let n ← limitS
    pure (mkQ 1 d n items froms wh gh.1 gh.2 or [])
theorem part_f (K : Knot) (s : Sy) (c : seesB m_lp s = false) : partS K s = prtSel K s := by
  unfold partS
  rw [sees_eq, if_neg (by simp [c])]
  rfl
theorem bnd {α β : Type} {m : SM α} {k : α → SM β} {s s' : Sy} {a : α} (h : m s = (a, s')) : (m >>= k) s = k a s' := by
  rw [SM.bind_run, h]
theorem prt_by {K : Knot} {s s1 s2 s3 s4 s5 s6 s7 s8 : Sy} {u d items froms wh gh or n} (h1 : wantS w_select s = (u, s1)) (h2 : takeS w_distinct s1 = (d, s2)) (h3 : listS m_comma (itemS K) s2 = (items, s3)) (h4 : behindS w_from (sourceS K) s3 = (froms, s4)) (h5 : behindS w_where K.or s4 = (wh, s5)) (h6 : groupS K s5 = (gh, s6)) (h7 : orderS K s6 = (or, s7)) (h8 : limitS s7 = (n, s8)) : prtSel K s = (mkQ 1 d n items froms wh gh.1 gh.2 or [], s8) := by
  unfold prtSel
  rw [bnd h1, bnd h2, bnd h3, bnd h4, bnd h5, bnd h6, bnd h7, bnd h8]
  rfl
theorem group_eq (K : Knot) (s : Sy) : groupS K s = if (takeS w_group s).1 = true then (((listS m_comma K.or (wantS w_by (takeS w_group s).2).2).1, (behindS w_having K.or (listS m_comma K.or (wantS w_by (takeS w_group s).2).2).2).1), (behindS w_having K.or (listS m_comma K.or (wantS w_by (takeS w_group s).2).2).2).2) else (([], []), (takeS w_group s).2) := by
  unfold groupS
  rw [take_eq]
  split
  · rw [SM.bind_run, SM.bind_run, SM.bind_run]
    rfl
  · rfl
theorem order_eq (K : Knot) (s : Sy) : orderS K s = if (takeS w_order s).1 = true then listS m_comma (keyS K) (wantS w_by (takeS w_order s).2).2 else ([], (takeS w_order s).2) := by
  unfold orderS
  rw [take_eq]
  split
  · rw [SM.bind_run]
  · rfl
theorem limit_eq (s : Sy) : limitS s = if (takeS w_limit s).1 = true then numberS (takeS w_limit s).2 else (-1, (takeS w_limit s).2) := by
  unfold limitS
  rw [take_eq]
  split
  · rfl
  · rfl
structure PSt (r b : Nat) (T : List Tk) (d : Int) (σ : AW) (M : Nat) (A : Fr) (σ' : AW) (s' : Sy) (di : Bool) (n : Int) (p2 p3 p4 p5 p6 p7 : List Tr) : Prop where
  hz : A.size = 59
  a0 : A.get 0 = some (.pointer (some ⟨r, 0, none⟩))
  a2 : A.get 2 = some (.pointer (some ⟨σ.next, 0, none⟩))
  a3 : A.get 3 = some (.pointer (some ⟨M, 0, none⟩))
  hs : RdS σ' r b T d s'
  g : Gr r σ σ'
  lM : σ.next < M
  nx : M < σ'.next
  z : σ'.get σ.next = ⟨1, 44, 0, [.int .i64 0, .bool false, .slice none 0 0, .slice none 0 0, .slice none 0 0, .slice none 0 0, .slice none 0 0, .slice none 0 0, .int .i64 0, .slice none 0 0]⟩
  q : ∃ v2 v3 v4 v5 v6 v7, σ'.get M = ⟨1, 44, 0, [.int .i64 1, .bool di, v2, v3, v4, v5, v6, v7, .int .i64 n, .slice none 0 0]⟩ ∧ Rd σ' (fun k => σ.next ≤ k) (sl 7 p2) v2 ∧ Rd σ' (fun k => σ.next ≤ k) (sl 7 p3) v3 ∧ Rd σ' (fun k => σ.next ≤ k) (sl 6 p4) v4 ∧ Rd σ' (fun k => σ.next ≤ k) (sl 6 p5) v5 ∧ Rd σ' (fun k => σ.next ≤ k) (sl 6 p6) v6 ∧ Rd σ' (fun k => σ.next ≤ k) (sl 7 p7) v7
theorem Rd.lo {σ : AW} {D D' : Nat → Prop} {v p : Value} (h : Rd σ D p v) (hD : ∀ k, D k → D' k) : Rd σ D' p v := h.keep (fun _ _ _ _ => rfl) (Nat.le_refl _) (fun k h _ => hD k h)
theorem rd_shape {σ : AW} {D : Nat → Prop} {n : Nat} {l : List Value} {v : Value} (h : Rd σ D (sl n l) v) : ∃ a k c, v = .slice a k c := by
  obtain ⟨m, _, hs⟩ := rd_sl.1 h
  rcases hs with ⟨_, c, rfl⟩ | ⟨b, o, c, k, e, z, cs, rfl, _⟩
  · exact ⟨_, _, _, rfl⟩
  · exact ⟨_, _, _, rfl⟩
set_option maxHeartbeats 1600000 in
theorem part_c (hW : WordOK) {K : Knot} {d : Int} (hK : KOK K r b T d) : Reads (fun _ => True) 10 r b T d 39 [.pointer (some ⟨r, 0, none⟩)] (partS K) := by
  intro σ s he h
  have hlr := h.lr
  have hlb := h.lb
  refine C_enter rfl Tryz.func39 rfl Tryz.ntmps39 Tryz.results39 (Nat.le_of_ble_eq_true rfl) ?_; intro A hz hA; have a0 := hA 0 _ rfl; clear hA
  repeat (first | apply s_R | apply o_n | ((first | apply o_p | (refine' o_g rfl rfl ?_ ?_; rotate_left) | apply w_c); (focus simp (disch := first | decide | (try simp only [zz, hz]) <;> omega | fail) only [go_sem, hz, a0] <;> rfl); with_reducible first | apply o_i | apply g_1 | apply g_2 | apply g_3 | apply g_4 | apply c_1 | apply c_2) | apply r_E | apply b_k | apply s_k | apply s_q)
  refine O_call (by simp (disch := first | decide | (try simp only [zz, hz]) <;> omega | fail) only [go_sem, hz, a0] <;> rfl) ?_
  refine C.mono (sees_s (h.kp ((Kp.refl σ).push _)) m_lp) ?_
  rintro _ σ1 ⟨rfl, k1⟩
  have nx1 := k1.next
  simp only [push_next] at nx1
  have gN1 := (k1.get σ.next (by first | omega | (simp only [push_next, set_next]; first | done | omega))).trans push_eq
  have h1 := (h.kp ((Kp.refl σ).push _)).kp k1
  replace k1 := (((Kp.refl σ).push _).trans k1).gr r
  cases c : seesB m_lp s with
  | true =>
    rw [part_t K s c]
    repeat (first | apply s_R | apply o_n | ((first | apply o_p | (refine' o_g rfl rfl ?_ ?_; rotate_left) | apply w_c); (focus simp (disch := first | decide | (try simp only [zz, hz]) <;> omega | fail) only [go_sem, hz, a0] <;> rfl); with_reducible first | apply o_i | apply g_1 | apply g_2 | apply g_3 | apply g_4 | apply c_1 | apply c_2) | apply r_E | apply b_k | apply s_k | apply s_q)
    refine O_call (by simp (disch := first | decide | (try simp only [zz, hz]) <;> omega | fail) only [go_sem, hz, a0] <;> rfl) ?_
    refine C.mono (inbQ_c (fs := [.pointer (some ⟨r, 0, none⟩)]) (cs := []) stable_true hK.parts _ _ trivial h1) ?_
    rintro _ σ2 ⟨⟨t2, l2, rfl, hl2, ho2⟩, h2, g2⟩
    have nx2 := g2.next
    have gN2 := (g2.get σ.next (by omega) (by omega)).trans gN1
    replace g2 := k1.trans g2
    have t2 : TE 10 σ2 (fun k => σ1.next ≤ k) (.agg ⟨l2⟩) (inBracketsS K.parts s).1 := ⟨t2, l2, rfl, hl2, ho2⟩
    repeat (first | apply s_R | apply o_n | ((first | apply o_p | (refine' o_g rfl rfl ?_ ?_; rotate_left) | apply w_c); (focus simp (disch := first | decide | (try simp only [zz, hz]) <;> omega | fail) only [go_sem, hz, a0, hl2, ho2, gN2] <;> rfl); with_reducible first | apply o_i | apply g_1 | apply g_2 | apply g_3 | apply g_4 | apply c_1 | apply c_2) | apply r_E | apply b_k | apply s_k | apply s_q)
    refine W_ret ?_; (try simp only [Then, Out, Jump, JumpL]); refine ret_mk (by simp (disch := first | decide | (try simp only [zz, hz]) <;> omega | fail) only [go_sem, hz, gN2, hl2] <;> rfl) ?_; (try simp only [resultA])
    exact post_fin ((Ow.refl _ _).set (Nat.le_refl _) _) g2 h2 hlr hlb ((t2.ks ((Ks.refl σ2).set (.inr (by rw [gN2])) _)).lo (fun k hk => by have := hk; omega))
  | false =>
    rw [part_f K s c]
    repeat (first | apply s_R | apply o_n | ((first | apply o_p | (refine' o_g rfl rfl ?_ ?_; rotate_left) | apply w_c); (focus simp (disch := first | decide | (try simp only [zz, hz]) <;> omega | fail) only [go_sem, hz, a0] <;> rfl); with_reducible first | apply o_i | apply g_1 | apply g_2 | apply g_3 | apply g_4 | apply c_1 | apply c_2) | apply r_E | apply b_k | apply s_k | apply s_q)
    refine O_call (by simp (disch := first | decide | (try simp only [zz, hz]) <;> omega | fail) only [go_sem, hz, a0] <;> rfl) ?_
    refine C.mono (want_c h1 w_select) ?_
    rintro _ σ2 ⟨h2, g2⟩
    have nx2 := g2.next
    have gN2 := (g2.get σ.next (by omega) (by omega)).trans gN1
    replace g2 := k1.trans g2
    repeat (first | apply s_R | apply o_n | ((first | apply o_p | (refine' o_g rfl rfl ?_ ?_; rotate_left) | apply w_c); (focus simp (disch := first | decide | (try simp only [zz, hz]) <;> omega | fail) only [go_sem, hz, a0] <;> rfl); with_reducible first | apply o_i | apply g_1 | apply g_2 | apply g_3 | apply g_4 | apply c_1 | apply c_2) | apply r_E | apply b_k | apply s_k | apply s_q)
    refine O_call (by simp (disch := first | decide | (try simp only [zz, hz]) <;> omega | fail) only [go_sem, hz, a0] <;> rfl) ?_
    refine C.mono (take_c h2 w_distinct) ?_
    rintro _ σ3 ⟨rfl, h3, g3⟩
    have nx3 := g3.next
    have gN3 := (g3.get σ.next (by omega) (by omega)).trans gN2
    replace g3 := g2.trans g3
    (repeat ((first | apply o_p | (refine' o_g rfl rfl ?_ ?_; rotate_left)); (focus simp (disch := first | decide | (try simp only [zz, hz]) <;> omega | fail) only [go_sem, hz, a0] <;> rfl); with_reducible first | apply o_i | apply g_1 | apply g_2 | apply g_3 | apply g_4 | apply c_1 | apply c_2)); apply o_n
    obtain ⟨M, hM⟩ : ∃ M, M = σ3.next := ⟨_, rfl⟩
    rw [← hM]
    have w3 : ∀ B1 B2 : Blk, Ow σ.next σ3 ((σ3.push B1).set M B2) := fun _ _ => (((Ow.refl σ.next σ3).push _).set (by omega) _)
    obtain ⟨s4, items, e4⟩ : ∃ s4 items, listS m_comma (itemS K) (takeS w_distinct (wantS w_select s).2).2 = (items, s4) := ⟨_, _, rfl⟩
    obtain ⟨s5, froms, e5⟩ : ∃ s5 froms, behindS w_from (sourceS K) s4 = (froms, s5) := ⟨_, _, rfl⟩
    obtain ⟨s6, wh, e6⟩ : ∃ s6 wh, behindS w_where K.or s5 = (wh, s6) := ⟨_, _, rfl⟩
    obtain ⟨s7, gr, ha, e7⟩ : ∃ s7 gr ha, groupS K s6 = ((gr, ha), s7) := ⟨_, _, _, rfl⟩
    obtain ⟨s8, or, e8⟩ : ∃ s8 or, orderS K s7 = (or, s8) := ⟨_, _, rfl⟩
    obtain ⟨s9, n, e9⟩ : ∃ s9 n, limitS s8 = (n, s9) := ⟨_, _, rfl⟩
    rw [prt_by (u := ()) (s1 := (wantS w_select s).2) (d := (takeS w_distinct (wantS w_select s).2).1) (s2 := (takeS w_distinct (wantS w_select s).2).2) rfl rfl e4 e5 e6 e7 e8 e9]
    generalize (takeS w_distinct (wantS w_select s).2).1 = di
    refine s_q (W.mono (Q := fun e A' σ' => e = .normal ∧ PSt r b T d σ M A' σ' s4 di (-1) items [] [] [] [] []) ?_ ?_)
    · repeat (first | apply s_R | apply o_n | ((first | apply o_p | (refine' o_g rfl rfl ?_ ?_; rotate_left) | apply w_c); (focus simp (disch := first | decide | (try simp only [zz, hz]) <;> omega | fail) only [go_sem, hz, a0] <;> rfl); with_reducible first | apply o_i | apply g_1 | apply g_2 | apply g_3 | apply g_4 | apply c_1 | apply c_2) | apply r_E | apply b_k | apply s_k | apply s_q)
      refine O_call (by simp (disch := first | decide | (try simp only [zz, hz]) <;> omega | fail) only [go_sem, hz, a0] <;> rfl) ?_
      refine C.mono (listI_c (fs := [.pointer (some ⟨r, 0, none⟩)]) (cs := []) stable_true (shr_item hK.sh) (item_c hW hK) m_comma _ _ trivial (h3.ow (w3 _ _) hlr hlb)) ?_
      rw [e4]
      rintro v2 σ4 ⟨t4, h4, g4⟩
      have nx4 := g4.next
      simp only [push_next, set_next] at nx4
      have gN4 := (g4.get σ.next (by first | omega | (simp only [push_next, set_next]; first | done | omega)) (by omega)).trans ((set_ne (by omega)).trans ((push_ne (by omega)).trans gN3))
      have gM4 := (g4.get M (by first | omega | (simp only [push_next, set_next]; first | done | omega)) (by omega)).trans set_eq
      obtain ⟨x2, y2, z2, rfl⟩ := rd_shape t4
      repeat (first | apply s_R | apply o_n | ((first | apply o_p | (refine' o_g rfl rfl ?_ ?_; rotate_left) | apply w_c); (focus simp (disch := first | decide | (try simp only [zz, hz]) <;> omega | fail) only [go_sem, hz, a0, gM4] <;> rfl); with_reducible first | apply o_i | apply g_1 | apply g_2 | apply g_3 | apply g_4 | apply c_1 | apply c_2) | apply r_E | apply b_k | apply s_k | apply s_q)
      refine ⟨rfl, by simp (disch := first | decide | (try simp only [zz, hz]) <;> omega | fail) only [go_sem, hz] <;> rfl, by simp (disch := first | decide | (try simp only [zz, hz]) <;> omega | fail) only [go_sem, hz, a0] <;> rfl, by simp (disch := first | decide | (try simp only [zz, hz]) <;> omega | fail) only [go_sem, hz] <;> rfl, by simp (disch := first | decide | (try simp only [zz, hz]) <;> omega | fail) only [go_sem, hz] <;> rfl, h4.ow ((Ow.refl σ.next σ4).set (by omega) _) hlr hlb, ((g3.ow (w3 _ _)).trans g4).ow ((Ow.refl σ.next σ4).set (by omega) _), by omega, by first | omega | (simp only [push_next, set_next]; first | done | omega), (set_ne (by omega)).trans gN4, ?_⟩
      have kM : ∀ B : Blk, Ks σ4 (σ4.set M B) := fun _ => (Ks.refl σ4).set (.inr (by rw [gM4])) _
      exact ⟨_, _, _, _, _, _, set_eq, (t4.ks (kM _)).lo (fun k hk => by have := hk; simp only [push_next, set_next] at this; omega), rd_nil _ _ _, rd_nil _ _ _, rd_nil _ _ _, rd_nil _ _ _, rd_nil _ _ _⟩
    rintro _ A σ4 ⟨rfl, hz, a0, a2, a3, h4, g4, lM, nx4, gN4, v2, v3, v4, v5, v6, v7, gM4, t2, t3, t4, t5, t6, t7⟩
    simp only [Then]
    obtain ⟨v2a, v2b, v2c, rfl⟩ := rd_shape t2
    obtain ⟨v3a, v3b, v3c, rfl⟩ := rd_shape t3
    obtain ⟨v4a, v4b, v4c, rfl⟩ := rd_shape t4
    obtain ⟨v5a, v5b, v5c, rfl⟩ := rd_shape t5
    obtain ⟨v6a, v6b, v6c, rfl⟩ := rd_shape t6
    obtain ⟨v7a, v7b, v7c, rfl⟩ := rd_shape t7
    refine s_q (W.mono (Q := fun e A' σ' => e = .normal ∧ PSt r b T d σ M A' σ' s5 di (-1) items froms [] [] [] []) ?_ ?_)
    · repeat (first | apply s_R | apply o_n | ((first | apply o_p | (refine' o_g rfl rfl ?_ ?_; rotate_left) | apply w_c); (focus simp (disch := first | decide | (try simp only [zz, hz]) <;> omega | fail) only [go_sem, hz, a0, a3] <;> rfl); with_reducible first | apply o_i | apply g_1 | apply g_2 | apply g_3 | apply g_4 | apply c_1 | apply c_2) | apply r_E | apply b_k | apply s_k | apply s_q)
      refine O_call (by simp (disch := first | decide | (try simp only [zz, hz]) <;> omega | fail) only [go_sem, hz, a0] <;> rfl) ?_
      refine C.mono (behF_c (fs := [.pointer (some ⟨r, 0, none⟩)]) (cs := []) stable_true (source_c hW hK) w_from _ _ trivial h4) ?_
      rw [e5]
      rintro x5 σ5 ⟨q5, h5, g5⟩
      have nx5 := g5.next
      try simp only [set_next] at nx5
      have gN5 := (g5.get σ.next (by omega) (by omega)).trans gN4
      have gM5 := (g5.get M (by omega) (by omega)).trans gM4
      have k5 := g5.ks h4.ez
      obtain ⟨y5, y6, y7, rfl⟩ := rd_shape q5
      repeat (first | apply s_R | apply o_n | ((first | apply o_p | (refine' o_g rfl rfl ?_ ?_; rotate_left) | apply w_c); (focus simp (disch := first | decide | (try simp only [zz, hz]) <;> omega | fail) only [go_sem, hz, a0, a3, gM5] <;> rfl); with_reducible first | apply o_i | apply g_1 | apply g_2 | apply g_3 | apply g_4 | apply c_1 | apply c_2) | apply r_E | apply b_k | apply s_k | apply s_q)
      refine ⟨rfl, by simp (disch := first | decide | (try simp only [zz, hz]) <;> omega | fail) only [go_sem, hz] <;> rfl, by simp (disch := first | decide | (try simp only [zz, hz]) <;> omega | fail) only [go_sem, hz, a0] <;> rfl, by simp (disch := first | decide | (try simp only [zz, hz]) <;> omega | fail) only [go_sem, hz, a2] <;> rfl, by simp (disch := first | decide | (try simp only [zz, hz]) <;> omega | fail) only [go_sem, hz, a3] <;> rfl, h5.ow ((Ow.refl σ.next σ5).set (by omega) _) hlr hlb, (g4.trans g5).ow ((Ow.refl σ.next σ5).set (by omega) _), by omega, by first | omega | (simp only [push_next, set_next]; first | done | omega), (set_ne (by omega)).trans gN5, ?_⟩
      have kM : ∀ B : Blk, Ks σ5 (σ5.set M B) := fun _ => (Ks.refl σ5).set (.inr (by rw [gM5])) _
      exact ⟨_, _, _, _, _, _, set_eq, (t2.ks k5).ks (kM _), (q5.lo (fun k hk => by have := hk; omega)).ks (kM _), (t4.ks k5).ks (kM _), (t5.ks k5).ks (kM _), (t6.ks k5).ks (kM _), (t7.ks k5).ks (kM _)⟩
    rintro _ A σ4 ⟨rfl, hz, a0, a2, a3, h4, g4, lM, nx4, gN4, v2, v3, v4, v5, v6, v7, gM4, t2, t3, t4, t5, t6, t7⟩
    simp only [Then]
    obtain ⟨v2a, v2b, v2c, rfl⟩ := rd_shape t2
    obtain ⟨v3a, v3b, v3c, rfl⟩ := rd_shape t3
    obtain ⟨v4a, v4b, v4c, rfl⟩ := rd_shape t4
    obtain ⟨v5a, v5b, v5c, rfl⟩ := rd_shape t5
    obtain ⟨v6a, v6b, v6c, rfl⟩ := rd_shape t6
    obtain ⟨v7a, v7b, v7c, rfl⟩ := rd_shape t7
    refine s_q (W.mono (Q := fun e A' σ' => e = .normal ∧ PSt r b T d σ M A' σ' s6 di (-1) items froms wh [] [] []) ?_ ?_)
    · repeat (first | apply s_R | apply o_n | ((first | apply o_p | (refine' o_g rfl rfl ?_ ?_; rotate_left) | apply w_c); (focus simp (disch := first | decide | (try simp only [zz, hz]) <;> omega | fail) only [go_sem, hz, a0, a3] <;> rfl); with_reducible first | apply o_i | apply g_1 | apply g_2 | apply g_3 | apply g_4 | apply c_1 | apply c_2) | apply r_E | apply b_k | apply s_k | apply s_q)
      refine O_call (by simp (disch := first | decide | (try simp only [zz, hz]) <;> omega | fail) only [go_sem, hz, a0] <;> rfl) ?_
      refine C.mono (behE_c (fs := [.pointer (some ⟨r, 0, none⟩)]) (cs := []) stable_true hK.or w_where _ _ trivial h4) ?_
      rw [e6]
      rintro x5 σ5 ⟨q5, h5, g5⟩
      have nx5 := g5.next
      try simp only [set_next] at nx5
      have gN5 := (g5.get σ.next (by omega) (by omega)).trans gN4
      have gM5 := (g5.get M (by omega) (by omega)).trans gM4
      have k5 := g5.ks h4.ez
      obtain ⟨y5, y6, y7, rfl⟩ := rd_shape q5
      repeat (first | apply s_R | apply o_n | ((first | apply o_p | (refine' o_g rfl rfl ?_ ?_; rotate_left) | apply w_c); (focus simp (disch := first | decide | (try simp only [zz, hz]) <;> omega | fail) only [go_sem, hz, a0, a3, gM5] <;> rfl); with_reducible first | apply o_i | apply g_1 | apply g_2 | apply g_3 | apply g_4 | apply c_1 | apply c_2) | apply r_E | apply b_k | apply s_k | apply s_q)
      refine ⟨rfl, by simp (disch := first | decide | (try simp only [zz, hz]) <;> omega | fail) only [go_sem, hz] <;> rfl, by simp (disch := first | decide | (try simp only [zz, hz]) <;> omega | fail) only [go_sem, hz, a0] <;> rfl, by simp (disch := first | decide | (try simp only [zz, hz]) <;> omega | fail) only [go_sem, hz, a2] <;> rfl, by simp (disch := first | decide | (try simp only [zz, hz]) <;> omega | fail) only [go_sem, hz, a3] <;> rfl, h5.ow ((Ow.refl σ.next σ5).set (by omega) _) hlr hlb, (g4.trans g5).ow ((Ow.refl σ.next σ5).set (by omega) _), by omega, by first | omega | (simp only [push_next, set_next]; first | done | omega), (set_ne (by omega)).trans gN5, ?_⟩
      have kM : ∀ B : Blk, Ks σ5 (σ5.set M B) := fun _ => (Ks.refl σ5).set (.inr (by rw [gM5])) _
      exact ⟨_, _, _, _, _, _, set_eq, (t2.ks k5).ks (kM _), (t3.ks k5).ks (kM _), (q5.lo (fun k hk => by have := hk; omega)).ks (kM _), (t5.ks k5).ks (kM _), (t6.ks k5).ks (kM _), (t7.ks k5).ks (kM _)⟩
    rintro _ A σ4 ⟨rfl, hz, a0, a2, a3, h4, g4, lM, nx4, gN4, v2, v3, v4, v5, v6, v7, gM4, t2, t3, t4, t5, t6, t7⟩
    simp only [Then]
    obtain ⟨v2a, v2b, v2c, rfl⟩ := rd_shape t2
    obtain ⟨v3a, v3b, v3c, rfl⟩ := rd_shape t3
    obtain ⟨v4a, v4b, v4c, rfl⟩ := rd_shape t4
    obtain ⟨v5a, v5b, v5c, rfl⟩ := rd_shape t5
    obtain ⟨v6a, v6b, v6c, rfl⟩ := rd_shape t6
    obtain ⟨v7a, v7b, v7c, rfl⟩ := rd_shape t7
    repeat (first | apply s_R | apply o_n | ((first | apply o_p | (refine' o_g rfl rfl ?_ ?_; rotate_left) | apply w_c); (focus simp (disch := first | decide | (try simp only [zz, hz]) <;> omega | fail) only [go_sem, hz, a0, a3] <;> rfl); with_reducible first | apply o_i | apply g_1 | apply g_2 | apply g_3 | apply g_4 | apply c_1 | apply c_2) | apply r_E | apply b_k | apply s_k | apply s_q)
    refine O_call (by simp (disch := first | decide | (try simp only [zz, hz]) <;> omega | fail) only [go_sem, hz, a0] <;> rfl) ?_
    refine C.mono (take_c h4 w_group) ?_
    rintro _ σ5 ⟨rfl, h5, g5⟩
    have nx5 := g5.next
    have gN5 := (g5.get σ.next (by omega) (by omega)).trans gN4
    have gM5 := (g5.get M (by omega) (by omega)).trans gM4
    have k5 := g5.ks h4.ez
    (repeat ((first | apply o_p | (refine' o_g rfl rfl ?_ ?_; rotate_left)); (focus simp (disch := first | decide | (try simp only [zz, hz]) <;> omega | fail) only [go_sem, hz, a0, a3] <;> rfl); with_reducible first | apply o_i | apply g_1 | apply g_2 | apply g_3 | apply g_4 | apply c_1 | apply c_2)); apply o_n
    refine W.mono (Q := fun e A' σ' => e = .normal ∧ PSt r b T d σ M A' σ' s7 di (-1) items froms wh gr ha []) ?_ ?_
    · rw [group_eq] at e7
      cases cg : (takeS w_group s6).1 with
      | true =>
        rw [if_pos cg] at e7
        cases e7
        repeat (first | apply s_R | apply o_n | ((first | apply o_p | (refine' o_g rfl rfl ?_ ?_; rotate_left) | apply w_c); (focus simp (disch := first | decide | (try simp only [zz, hz]) <;> omega | fail) only [go_sem, hz, a0, a3] <;> rfl); with_reducible first | apply o_i | apply g_1 | apply g_2 | apply g_3 | apply g_4 | apply c_1 | apply c_2) | apply r_E | apply b_k | apply s_k | apply s_q)
        refine O_call (by simp (disch := first | decide | (try simp only [zz, hz]) <;> omega | fail) only [go_sem, hz, a0] <;> rfl) ?_
        refine C.mono (want_c h5 w_by) ?_
        rintro _ σ6 ⟨h6, g6⟩
        have nx6 := g6.next
        have gN6 := (g6.get σ.next (by omega) (by omega)).trans gN5
        have gM6 := (g6.get M (by omega) (by omega)).trans gM5
        have k6 := k5.trans (g6.ks h5.ez)
        repeat (first | apply s_R | apply o_n | ((first | apply o_p | (refine' o_g rfl rfl ?_ ?_; rotate_left) | apply w_c); (focus simp (disch := first | decide | (try simp only [zz, hz]) <;> omega | fail) only [go_sem, hz, a0, a3] <;> rfl); with_reducible first | apply o_i | apply g_1 | apply g_2 | apply g_3 | apply g_4 | apply c_1 | apply c_2) | apply r_E | apply b_k | apply s_k | apply s_q)
        refine O_call (by simp (disch := first | decide | (try simp only [zz, hz]) <;> omega | fail) only [go_sem, hz, a0] <;> rfl) ?_
        refine C.mono (listE_c (fs := [.pointer (some ⟨r, 0, none⟩)]) (cs := []) stable_true hK.sh.or hK.or m_comma _ _ trivial h6) ?_
        rintro x7 σ7 ⟨q7, h7, g7⟩
        have nx7 := g7.next
        try simp only [set_next] at nx7
        have gN7 := (g7.get σ.next (by omega) (by omega)).trans gN6
        have gM7 := (g7.get M (by omega) (by omega)).trans gM6
        have k7 := k6.trans (g7.ks h6.ez)
        obtain ⟨y5, y6, y7, rfl⟩ := rd_shape q7
        repeat (first | apply s_R | apply o_n | ((first | apply o_p | (refine' o_g rfl rfl ?_ ?_; rotate_left) | apply w_c); (focus simp (disch := first | decide | (try simp only [zz, hz]) <;> omega | fail) only [go_sem, hz, a0, a3, gM7] <;> rfl); with_reducible first | apply o_i | apply g_1 | apply g_2 | apply g_3 | apply g_4 | apply c_1 | apply c_2) | apply r_E | apply b_k | apply s_k | apply s_q)
        have ow7 : ∀ B : Blk, Ow σ.next σ7 (σ7.set M B) := fun _ => (Ow.refl σ.next σ7).set (by omega) _
        have kM7 : ∀ B : Blk, Ks σ7 (σ7.set M B) := fun _ => (Ks.refl σ7).set (.inr (by rw [gM7])) _
        refine O_call (by simp (disch := first | decide | (try simp only [zz, hz]) <;> omega | fail) only [go_sem, hz, a0] <;> rfl) ?_
        refine C.mono (behE_c (fs := [.pointer (some ⟨r, 0, none⟩)]) (cs := []) stable_true hK.or w_having _ _ trivial (h7.ow (ow7 _) hlr hlb)) ?_
        rintro x8 σ8 ⟨q8, h8, g8⟩
        have nx8 := g8.next
        try simp only [set_next] at nx8
        have gN8 := (g8.get σ.next (by first | omega | (simp only [push_next, set_next]; first | done | omega)) (by omega)).trans ((set_ne (by omega)).trans gN7)
        have gM8 := (g8.get M (by first | omega | (simp only [push_next, set_next]; first | done | omega)) (by omega)).trans set_eq
        have k8 := (kM7 _).trans (g8.ks (h7.ow (ow7 _) hlr hlb).ez)
        obtain ⟨z5, z6, z7, rfl⟩ := rd_shape q8
        repeat (first | apply s_R | apply o_n | ((first | apply o_p | (refine' o_g rfl rfl ?_ ?_; rotate_left) | apply w_c); (focus simp (disch := first | decide | (try simp only [zz, hz]) <;> omega | fail) only [go_sem, hz, a0, a3, gM8] <;> rfl); with_reducible first | apply o_i | apply g_1 | apply g_2 | apply g_3 | apply g_4 | apply c_1 | apply c_2) | apply r_E | apply b_k | apply s_k | apply s_q)
        refine ⟨rfl, by simp (disch := first | decide | (try simp only [zz, hz]) <;> omega | fail) only [go_sem, hz] <;> rfl, by simp (disch := first | decide | (try simp only [zz, hz]) <;> omega | fail) only [go_sem, hz, a0] <;> rfl, by simp (disch := first | decide | (try simp only [zz, hz]) <;> omega | fail) only [go_sem, hz, a2] <;> rfl, by simp (disch := first | decide | (try simp only [zz, hz]) <;> omega | fail) only [go_sem, hz, a3] <;> rfl, h8.ow ((Ow.refl σ.next σ8).set (by omega) _) hlr hlb, ((((g4.trans g5).trans (g6.trans g7)).ow (ow7 _)).trans g8).ow ((Ow.refl σ.next σ8).set (by omega) _), by omega, by first | omega | (simp only [push_next, set_next]; first | done | omega), (set_ne (by omega)).trans gN8, ?_⟩
        have kM : ∀ B : Blk, Ks σ8 (σ8.set M B) := fun _ => (Ks.refl σ8).set (.inr (by rw [gM8])) _
        exact ⟨_, _, _, _, _, _, set_eq, ((t2.ks k7).ks k8).ks (kM _), ((t3.ks k7).ks k8).ks (kM _), ((t4.ks k7).ks k8).ks (kM _), ((q7.lo (fun k hk => by have := hk; omega)).ks k8).ks (kM _), (q8.lo (fun k hk => by have := hk; simp only [set_next] at this; omega)).ks (kM _), ((t7.ks k7).ks k8).ks (kM _)⟩
      | false =>
        rw [if_neg (by simp [cg])] at e7
        cases e7
        repeat (first | apply s_R | apply o_n | ((first | apply o_p | (refine' o_g rfl rfl ?_ ?_; rotate_left) | apply w_c); (focus simp (disch := first | decide | (try simp only [zz, hz]) <;> omega | fail) only [go_sem, hz, a0, a3] <;> rfl); with_reducible first | apply o_i | apply g_1 | apply g_2 | apply g_3 | apply g_4 | apply c_1 | apply c_2) | apply r_E | apply b_k | apply s_k | apply s_q)
        exact (by refine' ⟨rfl, ?_, ?_, ?_, ?_, h5, g4.trans g5, lM, by omega, gN5, _, _, _, _, _, _, gM5, t2.ks k5, t3.ks k5, t4.ks k5, t5.ks k5, t6.ks k5, t7.ks k5⟩; any_goals simp (disch := first | decide | (try simp only [zz, hz]) <;> omega | fail) only [go_sem, hz, a0, a2, a3] <;> rfl)
    rintro _ A σ4 ⟨rfl, hz, a0, a2, a3, h4, g4, lM, nx4, gN4, v2, v3, v4, v5, v6, v7, gM4, t2, t3, t4, t5, t6, t7⟩
    simp only [Then]
    obtain ⟨v2a, v2b, v2c, rfl⟩ := rd_shape t2
    obtain ⟨v3a, v3b, v3c, rfl⟩ := rd_shape t3
    obtain ⟨v4a, v4b, v4c, rfl⟩ := rd_shape t4
    obtain ⟨v5a, v5b, v5c, rfl⟩ := rd_shape t5
    obtain ⟨v6a, v6b, v6c, rfl⟩ := rd_shape t6
    obtain ⟨v7a, v7b, v7c, rfl⟩ := rd_shape t7
    repeat (first | apply s_R | apply o_n | ((first | apply o_p | (refine' o_g rfl rfl ?_ ?_; rotate_left) | apply w_c); (focus simp (disch := first | decide | (try simp only [zz, hz]) <;> omega | fail) only [go_sem, hz, a0, a3] <;> rfl); with_reducible first | apply o_i | apply g_1 | apply g_2 | apply g_3 | apply g_4 | apply c_1 | apply c_2) | apply r_E | apply b_k | apply s_k | apply s_q)
    refine O_call (by simp (disch := first | decide | (try simp only [zz, hz]) <;> omega | fail) only [go_sem, hz, a0] <;> rfl) ?_
    refine C.mono (take_c h4 w_order) ?_
    rintro _ σ5 ⟨rfl, h5, g5⟩
    have nx5 := g5.next
    have gN5 := (g5.get σ.next (by omega) (by omega)).trans gN4
    have gM5 := (g5.get M (by omega) (by omega)).trans gM4
    have k5 := g5.ks h4.ez
    (repeat ((first | apply o_p | (refine' o_g rfl rfl ?_ ?_; rotate_left)); (focus simp (disch := first | decide | (try simp only [zz, hz]) <;> omega | fail) only [go_sem, hz, a0, a3] <;> rfl); with_reducible first | apply o_i | apply g_1 | apply g_2 | apply g_3 | apply g_4 | apply c_1 | apply c_2)); apply o_n
    refine W.mono (Q := fun e A' σ' => e = .normal ∧ PSt r b T d σ M A' σ' s8 di (-1) items froms wh gr ha or) ?_ ?_
    · rw [order_eq] at e8
      cases cg : (takeS w_order s7).1 with
      | true =>
        rw [if_pos cg] at e8
        repeat (first | apply s_R | apply o_n | ((first | apply o_p | (refine' o_g rfl rfl ?_ ?_; rotate_left) | apply w_c); (focus simp (disch := first | decide | (try simp only [zz, hz]) <;> omega | fail) only [go_sem, hz, a0, a3] <;> rfl); with_reducible first | apply o_i | apply g_1 | apply g_2 | apply g_3 | apply g_4 | apply c_1 | apply c_2) | apply r_E | apply b_k | apply s_k | apply s_q)
        refine O_call (by simp (disch := first | decide | (try simp only [zz, hz]) <;> omega | fail) only [go_sem, hz, a0] <;> rfl) ?_
        refine C.mono (want_c h5 w_by) ?_
        rintro _ σ6 ⟨h6, g6⟩
        have nx6 := g6.next
        have gN6 := (g6.get σ.next (by omega) (by omega)).trans gN5
        have gM6 := (g6.get M (by omega) (by omega)).trans gM5
        have k6 := k5.trans (g6.ks h5.ez)
        repeat (first | apply s_R | apply o_n | ((first | apply o_p | (refine' o_g rfl rfl ?_ ?_; rotate_left) | apply w_c); (focus simp (disch := first | decide | (try simp only [zz, hz]) <;> omega | fail) only [go_sem, hz, a0, a3] <;> rfl); with_reducible first | apply o_i | apply g_1 | apply g_2 | apply g_3 | apply g_4 | apply c_1 | apply c_2) | apply r_E | apply b_k | apply s_k | apply s_q)
        refine O_call (by simp (disch := first | decide | (try simp only [zz, hz]) <;> omega | fail) only [go_sem, hz, a0] <;> rfl) ?_
        refine C.mono (listK_c (fs := [.pointer (some ⟨r, 0, none⟩)]) (cs := []) stable_true (shr_key hK.sh) (key_c hK) m_comma _ _ trivial h6) ?_
        rw [e8]
        rintro x7 σ7 ⟨q7, h7, g7⟩
        have nx7 := g7.next
        try simp only [set_next] at nx7
        have gN7 := (g7.get σ.next (by omega) (by omega)).trans gN6
        have gM7 := (g7.get M (by omega) (by omega)).trans gM6
        have k7 := k6.trans (g7.ks h6.ez)
        obtain ⟨y5, y6, y7, rfl⟩ := rd_shape q7
        repeat (first | apply s_R | apply o_n | ((first | apply o_p | (refine' o_g rfl rfl ?_ ?_; rotate_left) | apply w_c); (focus simp (disch := first | decide | (try simp only [zz, hz]) <;> omega | fail) only [go_sem, hz, a0, a3, gM7] <;> rfl); with_reducible first | apply o_i | apply g_1 | apply g_2 | apply g_3 | apply g_4 | apply c_1 | apply c_2) | apply r_E | apply b_k | apply s_k | apply s_q)
        refine ⟨rfl, by simp (disch := first | decide | (try simp only [zz, hz]) <;> omega | fail) only [go_sem, hz] <;> rfl, by simp (disch := first | decide | (try simp only [zz, hz]) <;> omega | fail) only [go_sem, hz, a0] <;> rfl, by simp (disch := first | decide | (try simp only [zz, hz]) <;> omega | fail) only [go_sem, hz, a2] <;> rfl, by simp (disch := first | decide | (try simp only [zz, hz]) <;> omega | fail) only [go_sem, hz, a3] <;> rfl, h7.ow ((Ow.refl σ.next σ7).set (by omega) _) hlr hlb, ((g4.trans g5).trans (g6.trans g7)).ow ((Ow.refl σ.next σ7).set (by omega) _), by omega, by first | omega | (simp only [push_next, set_next]; first | done | omega), (set_ne (by omega)).trans gN7, ?_⟩
        have kM : ∀ B : Blk, Ks σ7 (σ7.set M B) := fun _ => (Ks.refl σ7).set (.inr (by rw [gM7])) _
        exact ⟨_, _, _, _, _, _, set_eq, (t2.ks k7).ks (kM _), (t3.ks k7).ks (kM _), (t4.ks k7).ks (kM _), (t5.ks k7).ks (kM _), (t6.ks k7).ks (kM _), (q7.lo (fun k hk => by have := hk; omega)).ks (kM _)⟩
      | false =>
        rw [if_neg (by simp [cg])] at e8
        cases e8
        repeat (first | apply s_R | apply o_n | ((first | apply o_p | (refine' o_g rfl rfl ?_ ?_; rotate_left) | apply w_c); (focus simp (disch := first | decide | (try simp only [zz, hz]) <;> omega | fail) only [go_sem, hz, a0, a3] <;> rfl); with_reducible first | apply o_i | apply g_1 | apply g_2 | apply g_3 | apply g_4 | apply c_1 | apply c_2) | apply r_E | apply b_k | apply s_k | apply s_q)
        exact (by refine' ⟨rfl, ?_, ?_, ?_, ?_, h5, g4.trans g5, lM, by omega, gN5, _, _, _, _, _, _, gM5, t2.ks k5, t3.ks k5, t4.ks k5, t5.ks k5, t6.ks k5, t7.ks k5⟩; any_goals simp (disch := first | decide | (try simp only [zz, hz]) <;> omega | fail) only [go_sem, hz, a0, a2, a3] <;> rfl)
    rintro _ A σ4 ⟨rfl, hz, a0, a2, a3, h4, g4, lM, nx4, gN4, v2, v3, v4, v5, v6, v7, gM4, t2, t3, t4, t5, t6, t7⟩
    simp only [Then]
    obtain ⟨v2a, v2b, v2c, rfl⟩ := rd_shape t2
    obtain ⟨v3a, v3b, v3c, rfl⟩ := rd_shape t3
    obtain ⟨v4a, v4b, v4c, rfl⟩ := rd_shape t4
    obtain ⟨v5a, v5b, v5c, rfl⟩ := rd_shape t5
    obtain ⟨v6a, v6b, v6c, rfl⟩ := rd_shape t6
    obtain ⟨v7a, v7b, v7c, rfl⟩ := rd_shape t7
    repeat (first | apply s_R | apply o_n | ((first | apply o_p | (refine' o_g rfl rfl ?_ ?_; rotate_left) | apply w_c); (focus simp (disch := first | decide | (try simp only [zz, hz]) <;> omega | fail) only [go_sem, hz, a0, a3] <;> rfl); with_reducible first | apply o_i | apply g_1 | apply g_2 | apply g_3 | apply g_4 | apply c_1 | apply c_2) | apply r_E | apply b_k | apply s_k | apply s_q)
    refine O_call (by simp (disch := first | decide | (try simp only [zz, hz]) <;> omega | fail) only [go_sem, hz, a0] <;> rfl) ?_
    refine C.mono (take_c h4 w_limit) ?_
    rintro _ σ5 ⟨rfl, h5, g5⟩
    have nx5 := g5.next
    have gN5 := (g5.get σ.next (by omega) (by omega)).trans gN4
    have gM5 := (g5.get M (by omega) (by omega)).trans gM4
    have k5 := g5.ks h4.ez
    (repeat ((first | apply o_p | (refine' o_g rfl rfl ?_ ?_; rotate_left)); (focus simp (disch := first | decide | (try simp only [zz, hz]) <;> omega | fail) only [go_sem, hz, a0, a3] <;> rfl); with_reducible first | apply o_i | apply g_1 | apply g_2 | apply g_3 | apply g_4 | apply c_1 | apply c_2)); apply o_n
    refine W.mono (Q := fun e A' σ' => e = .normal ∧ PSt r b T d σ M A' σ' s9 di n items froms wh gr ha or) ?_ ?_
    · rw [limit_eq] at e9
      cases cg : (takeS w_limit s8).1 with
      | true =>
        rw [if_pos cg] at e9
        repeat (first | apply s_R | apply o_n | ((first | apply o_p | (refine' o_g rfl rfl ?_ ?_; rotate_left) | apply w_c); (focus simp (disch := first | decide | (try simp only [zz, hz]) <;> omega | fail) only [go_sem, hz, a0, a3] <;> rfl); with_reducible first | apply o_i | apply g_1 | apply g_2 | apply g_3 | apply g_4 | apply c_1 | apply c_2) | apply r_E | apply b_k | apply s_k | apply s_q)
        refine O_call (by simp (disch := first | decide | (try simp only [zz, hz]) <;> omega | fail) only [go_sem, hz, a0] <;> rfl) ?_
        refine C.mono (number_c h5) ?_
        rw [e9]
        rintro _ σ7 ⟨rfl, h7, g7⟩
        have nx7 := g7.next
        have gN7 := (g7.get σ.next (by omega) (by omega)).trans gN5
        have gM7 := (g7.get M (by omega) (by omega)).trans gM5
        have k7 := k5.trans (g7.ks h5.ez)
        repeat (first | apply s_R | apply o_n | ((first | apply o_p | (refine' o_g rfl rfl ?_ ?_; rotate_left) | apply w_c); (focus simp (disch := first | decide | (try simp only [zz, hz]) <;> omega | fail) only [go_sem, hz, a0, a3, gM7] <;> rfl); with_reducible first | apply o_i | apply g_1 | apply g_2 | apply g_3 | apply g_4 | apply c_1 | apply c_2) | apply r_E | apply b_k | apply s_k | apply s_q)
        refine ⟨rfl, by simp (disch := first | decide | (try simp only [zz, hz]) <;> omega | fail) only [go_sem, hz] <;> rfl, by simp (disch := first | decide | (try simp only [zz, hz]) <;> omega | fail) only [go_sem, hz, a0] <;> rfl, by simp (disch := first | decide | (try simp only [zz, hz]) <;> omega | fail) only [go_sem, hz, a2] <;> rfl, by simp (disch := first | decide | (try simp only [zz, hz]) <;> omega | fail) only [go_sem, hz, a3] <;> rfl, h7.ow ((Ow.refl σ.next σ7).set (by omega) _) hlr hlb, ((g4.trans g5).trans g7).ow ((Ow.refl σ.next σ7).set (by omega) _), by omega, by first | omega | (simp only [push_next, set_next]; first | done | omega), (set_ne (by omega)).trans gN7, ?_⟩
        have kM : ∀ B : Blk, Ks σ7 (σ7.set M B) := fun _ => (Ks.refl σ7).set (.inr (by rw [gM7])) _
        exact ⟨_, _, _, _, _, _, set_eq, (t2.ks k7).ks (kM _), (t3.ks k7).ks (kM _), (t4.ks k7).ks (kM _), (t5.ks k7).ks (kM _), (t6.ks k7).ks (kM _), (t7.ks k7).ks (kM _)⟩
      | false =>
        rw [if_neg (by simp [cg])] at e9
        cases e9
        repeat (first | apply s_R | apply o_n | ((first | apply o_p | (refine' o_g rfl rfl ?_ ?_; rotate_left) | apply w_c); (focus simp (disch := first | decide | (try simp only [zz, hz]) <;> omega | fail) only [go_sem, hz, a0, a3] <;> rfl); with_reducible first | apply o_i | apply g_1 | apply g_2 | apply g_3 | apply g_4 | apply c_1 | apply c_2) | apply r_E | apply b_k | apply s_k | apply s_q)
        exact (by refine' ⟨rfl, ?_, ?_, ?_, ?_, h5, g4.trans g5, lM, by omega, gN5, _, _, _, _, _, _, gM5, t2.ks k5, t3.ks k5, t4.ks k5, t5.ks k5, t6.ks k5, t7.ks k5⟩; any_goals simp (disch := first | decide | (try simp only [zz, hz]) <;> omega | fail) only [go_sem, hz, a0, a2, a3] <;> rfl)
    rintro _ A σ4 ⟨rfl, hz, a0, a2, a3, h4, g4, lM, nx4, gN4, v2, v3, v4, v5, v6, v7, gM4, t2, t3, t4, t5, t6, t7⟩
    simp only [Then]
    obtain ⟨v2a, v2b, v2c, rfl⟩ := rd_shape t2
    obtain ⟨v3a, v3b, v3c, rfl⟩ := rd_shape t3
    obtain ⟨v4a, v4b, v4c, rfl⟩ := rd_shape t4
    obtain ⟨v5a, v5b, v5c, rfl⟩ := rd_shape t5
    obtain ⟨v6a, v6b, v6c, rfl⟩ := rd_shape t6
    obtain ⟨v7a, v7b, v7c, rfl⟩ := rd_shape t7
    repeat (first | apply s_R | apply o_n | ((first | apply o_p | (refine' o_g rfl rfl ?_ ?_; rotate_left) | apply w_c); (focus simp (disch := first | decide | (try simp only [zz, hz]) <;> omega | fail) only [go_sem, hz, a0, a2, a3, gM4, gN4] <;> rfl); with_reducible first | apply o_i | apply g_1 | apply g_2 | apply g_3 | apply g_4 | apply c_1 | apply c_2) | apply r_E | apply b_k | apply s_k | apply s_q)
    refine W_ret ?_; (try simp only [Then, Out, Jump, JumpL]); refine ret_mk (by simp (disch := first | decide | (try simp only [zz, hz]) <;> omega | fail) only [go_sem, hz, a2, gN4] <;> rfl) ?_; (try simp only [resultA])
    have kN : ∀ B : Blk, Ks σ4 (σ4.set σ.next B) := fun _ => (Ks.refl σ4).set (.inr (by rw [gN4])) _
    exact post_fin ((Ow.refl _ _).set (Nat.le_refl _) _) g4 h4 hlr hlb (te_mkQ (t2.ks (kN _)) (t3.ks (kN _)) (t4.ks (kN _)) (t5.ks (kN _)) (t6.ks (kN _)) (t7.ks (kN _)) (rd_nil _ _ _))
end
end Go.Proofs.YtckidlbmoalomaaGreatDoor


namespace Go.Proofs.YtckidlbmoalomaaGreatDoor
open Go.RowKit
set_option linter.unusedVariables false

section
variable {r b : Nat} {T : List Tk}
theorem level_or (hW : WordOK) {K : Knot} {d : Int} (hK : KOK K r b T d) : Reads (fun _ => True) 6 r b T d 120 [.pointer (some ⟨r, 0, none⟩)] (unaryS K) ∧ Reads (fun _ => True) 6 r b T d 62 [.pointer (some ⟨r, 0, none⟩)] (notS K) ∧ Reads (fun _ => True) 6 r b T d 18 [.pointer (some ⟨r, 0, none⟩)] (orS K) ∧ Reads (fun _ => True) 10 r b T d 21 [.pointer (some ⟨r, 0, none⟩)] (partsS K) := by
  have h1 := unary_c hK (prim_c hW hK)
  have h2 := not_c hK (compared_c hK (sum_c (shr_product hK.sh) (product_c (shr_unary hK.sh) h1)))
  exact ⟨h1, h2, or_c (shr_and hK.sh) (and_c (shr_not hK.sh) h2), parts_c hK (part_c hW hK)⟩
theorem knot_c (hW : WordOK) : ∀ (n : Nat) (d : Int), d + n = 40 → 0 ≤ d → KOK (knot n) r b T d
  | 0, d, hd, h0 => by
    have e : d = 40 := by omega
    have hE : ∀ (g : Nat) (fs cs : List Value), Reads (fun _ => True) 6 r b T d 32 [.pointer (some ⟨r, 0, none⟩), .func (.func g) ⟨fs⟩ ⟨cs⟩] (tooDeep zE) := fun g fs cs => by
      have := deeperE_c (r := r) (b := b) (T := T) (g := g) (fs := fs) (cs := cs) (m := tooDeep zE) stable_true h0 (by omega) (fun h => absurd h (by omega))
      rwa [if_pos e] at this
    have hQ : ∀ (g : Nat) (fs cs : List Value), Reads (fun _ => True) 10 r b T d 36 [.pointer (some ⟨r, 0, none⟩), .func (.func g) ⟨fs⟩ ⟨cs⟩] (tooDeep zQ) := fun g fs cs => by
      have := deeperQ_c (r := r) (b := b) (T := T) (g := g) (fs := fs) (cs := cs) (m := tooDeep zQ) stable_true h0 (by omega) (fun h => absurd h (by omega))
      rwa [if_pos e] at this
    exact ⟨expr_c (hE _ _ _), hE _ _ _, hE _ _ _, query_c (hQ _ _ _), shr_knot 0⟩
  | n + 1, d, hd, h0 => by
    have hK := knot_c hW n (d + 1) (by omega) (by omega)
    obtain ⟨h1, h2, h3, h4⟩ := level_or hW hK
    have hE : ∀ {g : Nat} {fs cs : List Value} {m : SM Tr}, Reads (fun _ => True) 6 r b T (d + 1) g (fs ++ cs) m → Reads (fun _ => True) 6 r b T d 32 [.pointer (some ⟨r, 0, none⟩), .func (.func g) ⟨fs⟩ ⟨cs⟩] m := fun h => by
      have := deeperE_c stable_true h0 (by omega) (fun _ => h)
      rwa [if_neg (by omega)] at this
    have hQ : ∀ {g : Nat} {fs cs : List Value} {m : SM Tr}, Reads (fun _ => True) 10 r b T (d + 1) g (fs ++ cs) m → Reads (fun _ => True) 10 r b T d 36 [.pointer (some ⟨r, 0, none⟩), .func (.func g) ⟨fs⟩ ⟨cs⟩] m := fun h => by
      have := deeperQ_c stable_true h0 (by omega) (fun _ => h)
      rwa [if_neg (by omega)] at this
    exact ⟨expr_c (hE (fs := [.pointer (some ⟨r, 0, none⟩)]) (cs := []) h3), hE (fs := [.pointer (some ⟨r, 0, none⟩)]) (cs := []) h2, hE (fs := [.pointer (some ⟨r, 0, none⟩)]) (cs := []) h1, query_c (hQ (fs := [.pointer (some ⟨r, 0, none⟩)]) (cs := []) h4), shr_knot (n + 1)⟩
end
end Go.Proofs.YtckidlbmoalomaaGreatDoor


namespace Go.Proofs.YtckidlbmoalomaaGreatDoor

def mkV (s : ByteArray) (t : Int) : Tr := .agg ⟨[.string s, .int .i64 t]⟩
def variableS : SM Tr := do
  let s ← nameS
  let t ← typeS
  pure (mkV s t)
def declS : SM Tr := do
  let v ← variableS
  wantS m_semi
  pure v
def declsS : SM (List Tr) := eachS w_var declS []
def mkP (s : ByteArray) (ps vs b : List Tr) : Tr := .agg ⟨[.string s, sl 2 ps, sl 2 vs, sl 9 b]⟩
def procS (K : Knot) : SM Tr := do
  let s ← nameS
  let ps ← listInBracketsS variableS
  wantS m_lb
  let vs ← declsS
  let b ← stmtsS K
  wantS m_rb
  pure (mkP s ps vs b)
def mkSc (vars procs body : List Tr) : Tr := .agg ⟨[sl 2 vars, sl 4 procs, sl 9 body]⟩
def scriptS (K : Knot) : SM Tr := do
  let vars ← declsS
  let procs ← eachS w_proc (procS K) []
  let body ← stmtsS K
  pure (mkSc vars procs body)
def zSc : Tr := mkSc [] [] []
def scriptOf (s : ByteArray) : Tr × Int × Int := wholeS zSc (scriptS (knot 39)) (scanS s)
def assignedT (K : Knot) : SM Tr := do
  let p ← assignedS K
  pure (withName p.2 p.1)
theorem Shr.type : Shr typeS := (Shr.takeAny _).bind fun o => by
  cases o with
  | some w => exact .pure _
  | none => exact (Shr.refuse _).bind fun _ => .pure _
theorem shr_variable : Shr variableS := Shr.name.bind fun _ => Shr.type.bind fun _ => .pure _
theorem shr_decl : Shr declS := shr_variable.bind fun _ => (Shr.want _).bind fun _ => .pure _
theorem shr_decls : Shr declsS := shr_decl.each _ _
theorem shr_proc {K : Knot} (h : ShrK K) : Shr (procS K) := Shr.name.bind fun _ => shr_variable.listInBrackets.bind fun _ => (Shr.want _).bind fun _ => shr_decls.bind fun _ => (shr_stmts h).bind fun _ => (Shr.want _).bind fun _ => .pure _
theorem shr_assignedT {K : Knot} (h : ShrK K) : Shr (assignedT K) := (shr_assigned h).bind fun _ => .pure _
end Go.Proofs.YtckidlbmoalomaaGreatDoor


namespace Go.Proofs.YtckidlbmoalomaaGreatDoor
open Go.RowKit
set_option maxRecDepth 10000
set_option linter.unusedSimpArgs false
set_option linter.unusedVariables false

section
variable {r b : Nat} {T : List Tk}
theorem eachV_c {E : AW → Prop} (hE : Stable r E) {d : Int} {g : Nat} {fs cs : List Value} {m : SM Tr} (hsh : Shr m) (hf : Reads E 2 r b T d g (fs ++ cs) m) (x : ByteArray) :
    ReadsL E 2 r b T d 48 [.pointer (some ⟨r, 0, none⟩), .string x, .func (.func g) ⟨fs⟩ ⟨cs⟩] (eachS x m []) := by
  intro σ s he h
  have hlr := h.lr
  have hlb := h.lb
  have hfew : s.left.length ≤ 100000 := by obtain ⟨i, h1, h2⟩ := h; rw [h2, List.length_drop]; have := h1.few; omega
  refine C_enter rfl Tryz.func48 rfl Tryz.ntmps48 Tryz.results48 (Nat.le_of_ble_eq_true rfl) ?_; intro A hz hA; have a0 := hA 0 _ rfl; have a1 := hA 1 _ rfl; have a2 := hA 2 _ rfl; clear hA
  repeat (first | apply s_R | apply o_n | ((first | apply o_p | (refine' o_g rfl rfl ?_ ?_; rotate_left) | apply w_c); (focus simp (disch := first | decide | (try simp only [zz, hz]) <;> omega | fail) only [go_sem, hz, a0, a1, a2] <;> rfl); with_reducible first | apply o_i | apply g_1 | apply g_2 | apply g_3 | apply g_4 | apply c_1 | apply c_2) | apply r_E | apply b_k | apply s_k | apply s_q)
  refine W_loop (WL_inv (fun k B σ2 => ∃ s2 ps vs v, s2.left.length ≤ k ∧ B.size = 17 ∧ B.get 0 = some (.pointer (some ⟨r, 0, none⟩)) ∧ B.get 1 = some (.string x) ∧ B.get 2 = some (.func (.func g) ⟨fs⟩ ⟨cs⟩) ∧ B.get 7 = some v ∧ RdS σ2 r b T d s2 ∧ Gr r σ σ2 ∧ GrowO σ2 σ.next 95 2 v vs ps ∧ vs.length + s2.left.length ≤ s.left.length ∧ loopS (eaStep x m) k ps s2 = eachS x m [] s) ?_ (m := s.left.length) (by refine' ⟨s, [], [], _, Nat.le_refl _, ?_, ?_, ?_, ?_, ?_, h, Gr.refl r σ, .inl ⟨rfl, rfl, rfl⟩, by simp, rfl⟩; any_goals simp (disch := first | decide | (try simp only [zz, hz]) <;> omega | fail) only [go_sem, hz, a0, a1, a2] <;> rfl))
  rintro k B σ2 ⟨s2, ps, vs, v, hk, hz, b0, b1, b2, b7, h2, g2, hG, hcnt, hloop⟩
  repeat (first | apply s_R | apply o_n | ((first | apply o_p | (refine' o_g rfl rfl ?_ ?_; rotate_left) | apply w_c); (focus simp (disch := first | decide | (try simp only [zz, hz]) <;> omega | fail) only [go_sem, hz, b0, b1, b2, b7] <;> rfl); with_reducible first | apply o_i | apply g_1 | apply g_2 | apply g_3 | apply g_4 | apply c_1 | apply c_2) | apply r_E | apply b_k | apply s_k | apply s_q)
  refine O_call (by simp (disch := first | decide | (try simp only [zz, hz]) <;> omega | fail) only [go_sem, hz, b0, b1, b2, b7] <;> rfl) ?_
  refine C.mono (take_c h2 x) ?_
  rintro _ σ3 ⟨rfl, h3, g3⟩
  obtain ⟨i2, hi1, hi2, _⟩ := h2.head
  have hpos : 0 < s2.left.length := by rw [hi2, List.length_drop]; have := hi1.li; omega
  have nx3 := g3.next
  have nx2 := g2.next
  obtain ⟨k, rfl⟩ : ∃ j, k = j + 1 := ⟨k - 1, by omega⟩
  have hG3 : GrowO σ3 σ.next 95 2 v vs ps := hG.imp id (fun h => h.gr g3 hlr)
  cases ht : (takeS x s2).1 with
  | true =>
    have hlt : (takeS x s2).2.left.length < s2.left.length := take_lt hpos ht
    rw [ea_true ht] at hloop
    repeat (first | apply s_R | apply o_n | ((first | apply o_p | (refine' o_g rfl rfl ?_ ?_; rotate_left) | apply w_c); (focus simp (disch := first | decide | (try simp only [zz, hz]) <;> omega | fail) only [go_sem, hz, b0, b1, b2, b7] <;> rfl); with_reducible first | apply o_i | apply g_1 | apply g_2 | apply g_3 | apply g_4 | apply c_1 | apply c_2) | apply r_E | apply b_k | apply s_k | apply s_q)
    refine O_call (by simp (disch := first | decide | (try simp only [zz, hz]) <;> omega | fail) only [go_sem, hz, b0, b1, b2, b7] <;> rfl) ?_
    refine C.mono (hf _ _ (hE _ _ he (g2.trans g3)) h3) ?_
    rintro _ σ4 ⟨⟨t4, l4, rfl, hl4, ho4⟩, h4, g4⟩
    have hs4 := hsh (takeS x s2).2
    obtain ⟨v', σ', hap, hG', hOw, _⟩ := growO_app us_23 io_95 rfl (by decide) hlr (by omega) hG3 g4 ⟨t4, l4, rfl, hl4, ho4⟩ (by omega) (by omega)
    repeat (first | apply s_R | apply o_n | ((first | apply o_p | (refine' o_g rfl rfl ?_ ?_; rotate_left) | apply w_c); (focus simp (disch := first | decide | (try simp only [zz, hz]) <;> omega | fail) only [go_sem, hz, b0, b1, b2, b7, hl4, ho4, hap] <;> rfl); with_reducible first | apply o_i | apply g_1 | apply g_2 | apply g_3 | apply g_4 | apply c_1 | apply c_2) | apply r_E | apply b_k | apply s_k | apply s_q)
    exact (by refine' ⟨k, Nat.lt_succ_self _, (m (takeS x s2).2).2, ps ++ [(m (takeS x s2).2).1], vs ++ [.agg ⟨l4⟩], v', by omega, ?_, ?_, ?_, ?_, ?_, h4.ow hOw hlr hlb, ((g2.trans g3).trans g4).ow hOw, .inr hG', by rw [List.length_append, List.length_singleton]; omega, hloop⟩; any_goals simp (disch := first | decide | (try simp only [zz, hz]) <;> omega | fail) only [go_sem, hz, b0, b1, b2] <;> rfl)
  | false =>
    rw [ea_false ht] at hloop
    repeat (first | apply s_R | apply o_n | ((first | apply o_p | (refine' o_g rfl rfl ?_ ?_; rotate_left) | apply w_c); (focus simp (disch := first | decide | (try simp only [zz, hz]) <;> omega | fail) only [go_sem, hz, b0, b1, b2, b7] <;> rfl); with_reducible first | apply o_i | apply g_1 | apply g_2 | apply g_3 | apply g_4 | apply c_1 | apply c_2) | apply r_E | apply b_k | apply s_k | apply s_q)
    refine W_exit ?_; simp only [Then, Out, JumpL, reduceIte, Nat.reduceEqDiff]
    repeat (first | apply s_R | apply o_n | ((first | apply o_p | (refine' o_g rfl rfl ?_ ?_; rotate_left) | apply w_c); (focus simp (disch := first | decide | (try simp only [zz, hz]) <;> omega | fail) only [go_sem, hz, b0, b1, b2, b7] <;> rfl); with_reducible first | apply o_i | apply g_1 | apply g_2 | apply g_3 | apply g_4 | apply c_1 | apply c_2) | apply r_E | apply b_k | apply s_k | apply s_q)
    refine W_ret ?_; (try simp only [Then, Out, Jump, JumpL]); refine ret_mk (by simp (disch := first | decide | (try simp only [zz, hz]) <;> omega | fail) only [go_sem, hz] <;> rfl) ?_; (try simp only [resultA])
    rw [← hloop]
    exact ⟨by
      rcases hG3 with ⟨rfl, rfl, rfl⟩ | hG3
      · exact rd_nil _ _ _
      · exact hG3.rd (by decide), h3, g2.trans g3⟩
theorem eachP_c {E : AW → Prop} (hE : Stable r E) {d : Int} {g : Nat} {fs cs : List Value} {m : SM Tr} (hsh : Shr m) (hf : Reads E 4 r b T d g (fs ++ cs) m) (x : ByteArray) :
    ReadsL E 4 r b T d 27 [.pointer (some ⟨r, 0, none⟩), .string x, .func (.func g) ⟨fs⟩ ⟨cs⟩] (eachS x m []) := by
  intro σ s he h
  have hlr := h.lr
  have hlb := h.lb
  have hfew : s.left.length ≤ 100000 := by obtain ⟨i, h1, h2⟩ := h; rw [h2, List.length_drop]; have := h1.few; omega
  refine C_enter rfl Tryz.func27 rfl Tryz.ntmps27 Tryz.results27 (Nat.le_of_ble_eq_true rfl) ?_; intro A hz hA; have a0 := hA 0 _ rfl; have a1 := hA 1 _ rfl; have a2 := hA 2 _ rfl; clear hA
  repeat (first | apply s_R | apply o_n | ((first | apply o_p | (refine' o_g rfl rfl ?_ ?_; rotate_left) | apply w_c); (focus simp (disch := first | decide | (try simp only [zz, hz]) <;> omega | fail) only [go_sem, hz, a0, a1, a2] <;> rfl); with_reducible first | apply o_i | apply g_1 | apply g_2 | apply g_3 | apply g_4 | apply c_1 | apply c_2) | apply r_E | apply b_k | apply s_k | apply s_q)
  refine W_loop (WL_inv (fun k B σ2 => ∃ s2 ps vs v, s2.left.length ≤ k ∧ B.size = 17 ∧ B.get 0 = some (.pointer (some ⟨r, 0, none⟩)) ∧ B.get 1 = some (.string x) ∧ B.get 2 = some (.func (.func g) ⟨fs⟩ ⟨cs⟩) ∧ B.get 7 = some v ∧ RdS σ2 r b T d s2 ∧ Gr r σ σ2 ∧ GrowO σ2 σ.next 77 4 v vs ps ∧ vs.length + s2.left.length ≤ s.left.length ∧ loopS (eaStep x m) k ps s2 = eachS x m [] s) ?_ (m := s.left.length) (by refine' ⟨s, [], [], _, Nat.le_refl _, ?_, ?_, ?_, ?_, ?_, h, Gr.refl r σ, .inl ⟨rfl, rfl, rfl⟩, by simp, rfl⟩; any_goals simp (disch := first | decide | (try simp only [zz, hz]) <;> omega | fail) only [go_sem, hz, a0, a1, a2] <;> rfl))
  rintro k B σ2 ⟨s2, ps, vs, v, hk, hz, b0, b1, b2, b7, h2, g2, hG, hcnt, hloop⟩
  repeat (first | apply s_R | apply o_n | ((first | apply o_p | (refine' o_g rfl rfl ?_ ?_; rotate_left) | apply w_c); (focus simp (disch := first | decide | (try simp only [zz, hz]) <;> omega | fail) only [go_sem, hz, b0, b1, b2, b7] <;> rfl); with_reducible first | apply o_i | apply g_1 | apply g_2 | apply g_3 | apply g_4 | apply c_1 | apply c_2) | apply r_E | apply b_k | apply s_k | apply s_q)
  refine O_call (by simp (disch := first | decide | (try simp only [zz, hz]) <;> omega | fail) only [go_sem, hz, b0, b1, b2, b7] <;> rfl) ?_
  refine C.mono (take_c h2 x) ?_
  rintro _ σ3 ⟨rfl, h3, g3⟩
  obtain ⟨i2, hi1, hi2, _⟩ := h2.head
  have hpos : 0 < s2.left.length := by rw [hi2, List.length_drop]; have := hi1.li; omega
  have nx3 := g3.next
  have nx2 := g2.next
  obtain ⟨k, rfl⟩ : ∃ j, k = j + 1 := ⟨k - 1, by omega⟩
  have hG3 : GrowO σ3 σ.next 77 4 v vs ps := hG.imp id (fun h => h.gr g3 hlr)
  cases ht : (takeS x s2).1 with
  | true =>
    have hlt : (takeS x s2).2.left.length < s2.left.length := take_lt hpos ht
    rw [ea_true ht] at hloop
    repeat (first | apply s_R | apply o_n | ((first | apply o_p | (refine' o_g rfl rfl ?_ ?_; rotate_left) | apply w_c); (focus simp (disch := first | decide | (try simp only [zz, hz]) <;> omega | fail) only [go_sem, hz, b0, b1, b2, b7] <;> rfl); with_reducible first | apply o_i | apply g_1 | apply g_2 | apply g_3 | apply g_4 | apply c_1 | apply c_2) | apply r_E | apply b_k | apply s_k | apply s_q)
    refine O_call (by simp (disch := first | decide | (try simp only [zz, hz]) <;> omega | fail) only [go_sem, hz, b0, b1, b2, b7] <;> rfl) ?_
    refine C.mono (hf _ _ (hE _ _ he (g2.trans g3)) h3) ?_
    rintro _ σ4 ⟨⟨t4, l4, rfl, hl4, ho4⟩, h4, g4⟩
    have hs4 := hsh (takeS x s2).2
    obtain ⟨v', σ', hap, hG', hOw, _⟩ := growO_app us_24 io_77 rfl (by decide) hlr (by omega) hG3 g4 ⟨t4, l4, rfl, hl4, ho4⟩ (by omega) (by omega)
    repeat (first | apply s_R | apply o_n | ((first | apply o_p | (refine' o_g rfl rfl ?_ ?_; rotate_left) | apply w_c); (focus simp (disch := first | decide | (try simp only [zz, hz]) <;> omega | fail) only [go_sem, hz, b0, b1, b2, b7, hl4, ho4, hap] <;> rfl); with_reducible first | apply o_i | apply g_1 | apply g_2 | apply g_3 | apply g_4 | apply c_1 | apply c_2) | apply r_E | apply b_k | apply s_k | apply s_q)
    exact (by refine' ⟨k, Nat.lt_succ_self _, (m (takeS x s2).2).2, ps ++ [(m (takeS x s2).2).1], vs ++ [.agg ⟨l4⟩], v', by omega, ?_, ?_, ?_, ?_, ?_, h4.ow hOw hlr hlb, ((g2.trans g3).trans g4).ow hOw, .inr hG', by rw [List.length_append, List.length_singleton]; omega, hloop⟩; any_goals simp (disch := first | decide | (try simp only [zz, hz]) <;> omega | fail) only [go_sem, hz, b0, b1, b2] <;> rfl)
  | false =>
    rw [ea_false ht] at hloop
    repeat (first | apply s_R | apply o_n | ((first | apply o_p | (refine' o_g rfl rfl ?_ ?_; rotate_left) | apply w_c); (focus simp (disch := first | decide | (try simp only [zz, hz]) <;> omega | fail) only [go_sem, hz, b0, b1, b2, b7] <;> rfl); with_reducible first | apply o_i | apply g_1 | apply g_2 | apply g_3 | apply g_4 | apply c_1 | apply c_2) | apply r_E | apply b_k | apply s_k | apply s_q)
    refine W_exit ?_; simp only [Then, Out, JumpL, reduceIte, Nat.reduceEqDiff]
    repeat (first | apply s_R | apply o_n | ((first | apply o_p | (refine' o_g rfl rfl ?_ ?_; rotate_left) | apply w_c); (focus simp (disch := first | decide | (try simp only [zz, hz]) <;> omega | fail) only [go_sem, hz, b0, b1, b2, b7] <;> rfl); with_reducible first | apply o_i | apply g_1 | apply g_2 | apply g_3 | apply g_4 | apply c_1 | apply c_2) | apply r_E | apply b_k | apply s_k | apply s_q)
    refine W_ret ?_; (try simp only [Then, Out, Jump, JumpL]); refine ret_mk (by simp (disch := first | decide | (try simp only [zz, hz]) <;> omega | fail) only [go_sem, hz] <;> rfl) ?_; (try simp only [resultA])
    rw [← hloop]
    exact ⟨by
      rcases hG3 with ⟨rfl, rfl, rfl⟩ | hG3
      · exact rd_nil _ _ _
      · exact hG3.rd (by decide), h3, g2.trans g3⟩
theorem listV_c {E : AW → Prop} (hE : Stable r E) {d : Int} {g : Nat} {fs cs : List Value} {m : SM Tr} (hsh : Shr m) (hf : Reads E 2 r b T d g (fs ++ cs) m) (x : ByteArray) :
    ReadsL E 2 r b T d 88 [.pointer (some ⟨r, 0, none⟩), .string x, .func (.func g) ⟨fs⟩ ⟨cs⟩] (listS x m) := by
  intro σ s he h
  have hlr := h.lr
  have hlb := h.lb
  have hfew : s.left.length ≤ 100000 := by obtain ⟨i, h1, h2⟩ := h; rw [h2, List.length_drop]; have := h1.few; omega
  refine C_enter rfl Tryz.func88 rfl Tryz.ntmps88 Tryz.results88 (Nat.le_of_ble_eq_true rfl) ?_; intro A hz hA; have a0 := hA 0 _ rfl; have a1 := hA 1 _ rfl; have a2 := hA 2 _ rfl; clear hA
  repeat (first | apply s_R | apply o_n | ((first | apply o_p | (refine' o_g rfl rfl ?_ ?_; rotate_left) | apply w_c); (focus simp (disch := first | decide | (try simp only [zz, hz]) <;> omega | fail) only [go_sem, hz, a0, a1, a2] <;> rfl); with_reducible first | apply o_i | apply g_1 | apply g_2 | apply g_3 | apply g_4 | apply c_1 | apply c_2) | apply r_E | apply b_k | apply s_k | apply s_q)
  refine O_call (by simp (disch := first | decide | (try simp only [zz, hz]) <;> omega | fail) only [go_sem, hz, a0, a1, a2] <;> rfl) ?_
  refine C.mono (hf _ _ he h) ?_
  rintro _ σ1 ⟨⟨t1, l, rfl, hl, ho⟩, h1, g1⟩
  have nx1 := g1.next
  have hs1 := hsh s
  repeat (first | apply s_R | apply o_n | ((first | apply o_p | (refine' o_g rfl rfl ?_ ?_; rotate_left) | apply w_c); (focus simp (disch := first | decide | (try simp only [zz, hz]) <;> omega | fail) only [go_sem, hz, a0, a1, a2, hl, ho] <;> rfl); with_reducible first | apply o_i | apply g_1 | apply g_2 | apply g_3 | apply g_4 | apply c_1 | apply c_2) | apply r_E | apply b_k | apply s_k | apply s_q)
  refine W_loop (WL_inv (fun k B σ2 => ∃ s2 ps vs v, s2.left.length ≤ k ∧ B.size = 20 ∧ B.get 0 = some (.pointer (some ⟨r, 0, none⟩)) ∧ B.get 1 = some (.string x) ∧ B.get 2 = some (.func (.func g) ⟨fs⟩ ⟨cs⟩) ∧ B.get 7 = some v ∧ RdS σ2 r b T d s2 ∧ Gr r σ σ2 ∧ Grow σ2 σ.next 95 2 v vs ps ∧ vs.length + s2.left.length ≤ s.left.length + 1 ∧ loopS (eaStep x m) k ps s2 = listS x m s) ?_ (m := (m s).2.left.length) ⟨(m s).2, [(m s).1], [.agg ⟨l⟩], _, Nat.le_refl _, (by simp (disch := first | decide | (try simp only [zz, hz]) <;> omega | fail) only [go_sem, hz] <;> rfl), (by simp (disch := first | decide | (try simp only [zz, hz]) <;> omega | fail) only [go_sem, hz, a0] <;> rfl), (by simp (disch := first | decide | (try simp only [zz, hz]) <;> omega | fail) only [go_sem, hz, a1] <;> rfl), (by simp (disch := first | decide | (try simp only [zz, hz]) <;> omega | fail) only [go_sem, hz, a2] <;> rfl), (by simp (disch := first | decide | (try simp only [zz, hz]) <;> omega | fail) only [go_sem, hz] <;> rfl), h1.kp ((Kp.refl σ1).push _), g1.kp ((Kp.refl σ1).push _), ?_, ?_, rfl⟩)
  · rintro k B σ2 ⟨s2, ps, vs, v, hk, hz, b0, b1, b2, b7, h2, g2, hG, hcnt, hloop⟩
    repeat (first | apply s_R | apply o_n | ((first | apply o_p | (refine' o_g rfl rfl ?_ ?_; rotate_left) | apply w_c); (focus simp (disch := first | decide | (try simp only [zz, hz]) <;> omega | fail) only [go_sem, hz, b0, b1, b2, b7] <;> rfl); with_reducible first | apply o_i | apply g_1 | apply g_2 | apply g_3 | apply g_4 | apply c_1 | apply c_2) | apply r_E | apply b_k | apply s_k | apply s_q)
    refine O_call (by simp (disch := first | decide | (try simp only [zz, hz]) <;> omega | fail) only [go_sem, hz, b0, b1, b2, b7] <;> rfl) ?_
    refine C.mono (take_c h2 x) ?_
    rintro _ σ3 ⟨rfl, h3, g3⟩
    obtain ⟨i2, hi1, hi2, _⟩ := h2.head
    have hpos : 0 < s2.left.length := by rw [hi2, List.length_drop]; have := hi1.li; omega
    have nx3 := g3.next
    have nx2 := g2.next
    obtain ⟨k, rfl⟩ : ∃ j, k = j + 1 := ⟨k - 1, by omega⟩
    have hG3 := hG.gr g3 hlr
    cases ht : (takeS x s2).1 with
    | true =>
      have hlt : (takeS x s2).2.left.length < s2.left.length := take_lt hpos ht
      rw [ea_true ht] at hloop
      repeat (first | apply s_R | apply o_n | ((first | apply o_p | (refine' o_g rfl rfl ?_ ?_; rotate_left) | apply w_c); (focus simp (disch := first | decide | (try simp only [zz, hz]) <;> omega | fail) only [go_sem, hz, b0, b1, b2, b7] <;> rfl); with_reducible first | apply o_i | apply g_1 | apply g_2 | apply g_3 | apply g_4 | apply c_1 | apply c_2) | apply r_E | apply b_k | apply s_k | apply s_q)
      refine O_call (by simp (disch := first | decide | (try simp only [zz, hz]) <;> omega | fail) only [go_sem, hz, b0, b1, b2, b7] <;> rfl) ?_
      refine C.mono (hf _ _ (hE _ _ he (g2.trans g3)) h3) ?_
      rintro _ σ4 ⟨⟨t4, l4, rfl, hl4, ho4⟩, h4, g4⟩
      have hs4 := hsh (takeS x s2).2
      obtain ⟨v', σ', hap, hG', hOw, _⟩ := grow_app us_23 io_95 rfl (by decide) hlr (by omega) hG3 g4 ⟨t4, l4, rfl, hl4, ho4⟩ (by omega) (by omega)
      repeat (first | apply s_R | apply o_n | ((first | apply o_p | (refine' o_g rfl rfl ?_ ?_; rotate_left) | apply w_c); (focus simp (disch := first | decide | (try simp only [zz, hz]) <;> omega | fail) only [go_sem, hz, b0, b1, b2, b7, hl4, ho4, hap] <;> rfl); with_reducible first | apply o_i | apply g_1 | apply g_2 | apply g_3 | apply g_4 | apply c_1 | apply c_2) | apply r_E | apply b_k | apply s_k | apply s_q)
      exact (by refine' ⟨k, Nat.lt_succ_self _, (m (takeS x s2).2).2, ps ++ [(m (takeS x s2).2).1], vs ++ [.agg ⟨l4⟩], v', by omega, ?_, ?_, ?_, ?_, ?_, h4.ow hOw hlr hlb, ((g2.trans g3).trans g4).ow hOw, hG', by rw [List.length_append, List.length_singleton]; omega, hloop⟩; any_goals simp (disch := first | decide | (try simp only [zz, hz]) <;> omega | fail) only [go_sem, hz, b0, b1, b2] <;> rfl)
    | false =>
      rw [ea_false ht] at hloop
      repeat (first | apply s_R | apply o_n | ((first | apply o_p | (refine' o_g rfl rfl ?_ ?_; rotate_left) | apply w_c); (focus simp (disch := first | decide | (try simp only [zz, hz]) <;> omega | fail) only [go_sem, hz, b0, b1, b2, b7] <;> rfl); with_reducible first | apply o_i | apply g_1 | apply g_2 | apply g_3 | apply g_4 | apply c_1 | apply c_2) | apply r_E | apply b_k | apply s_k | apply s_q)
      refine W_exit ?_; simp only [Then, Out, JumpL, reduceIte, Nat.reduceEqDiff]
      repeat (first | apply s_R | apply o_n | ((first | apply o_p | (refine' o_g rfl rfl ?_ ?_; rotate_left) | apply w_c); (focus simp (disch := first | decide | (try simp only [zz, hz]) <;> omega | fail) only [go_sem, hz, b0, b1, b2, b7] <;> rfl); with_reducible first | apply o_i | apply g_1 | apply g_2 | apply g_3 | apply g_4 | apply c_1 | apply c_2) | apply r_E | apply b_k | apply s_k | apply s_q)
      refine W_ret ?_; (try simp only [Then, Out, Jump, JumpL]); refine ret_mk (by simp (disch := first | decide | (try simp only [zz, hz]) <;> omega | fail) only [go_sem, hz] <;> rfl) ?_; (try simp only [resultA])
      rw [← hloop]
      exact ⟨hG3.rd (by decide), h3, g2.trans g3⟩
  · refine ⟨σ1.next, 2, 1, 1, rfl, by rw [push_eq]; simp [cellsL], .inl ⟨rfl, rfl, rfl⟩, by omega, Nat.lt_succ_self _, RdL.one (t1.keep (fun j _ h1 _ => push_ne (by omega)) (Nat.le_succ _) (fun j hj hlt => ⟨hj, by omega⟩)), fun u hu => by simp only [List.mem_singleton] at hu; subst hu; exact ⟨l, rfl, hl, ho⟩⟩
  · simp only [List.length_singleton]
    omega
theorem inbLV_c {E : AW → Prop} (hE : Stable r E) {d : Int} {g : Nat} {fs cs : List Value} {m : SM (List Tr)} (hf : ReadsL E 2 r b T d g (fs ++ cs) m) :
    ReadsL E 2 r b T d 86 [.pointer (some ⟨r, 0, none⟩), .func (.func g) ⟨fs⟩ ⟨cs⟩] (inBracketsS m) := by
  intro σ s he h
  have hlr := h.lr
  have hlb := h.lb
  refine C_enter rfl Tryz.func86 rfl Tryz.ntmps86 Tryz.results86 (Nat.le_of_ble_eq_true rfl) ?_; intro A hz hA; have a0 := hA 0 _ rfl; have a1 := hA 1 _ rfl; clear hA
  repeat (first | apply s_R | apply o_n | ((first | apply o_p | (refine' o_g rfl rfl ?_ ?_; rotate_left) | apply w_c); (focus simp (disch := first | decide | (try simp only [zz, hz]) <;> omega | fail) only [go_sem, hz, a0, a1] <;> rfl); with_reducible first | apply o_i | apply g_1 | apply g_2 | apply g_3 | apply g_4 | apply c_1 | apply c_2) | apply r_E | apply b_k | apply s_k | apply s_q)
  refine O_call (by simp (disch := first | decide | (try simp only [zz, hz]) <;> omega | fail) only [go_sem, hz, a0, a1] <;> rfl) ?_
  refine C.mono (want_c h m_lp) ?_
  rintro _ σ1 ⟨h1, g1⟩
  have nx1 := g1.next
  repeat (first | apply s_R | apply o_n | ((first | apply o_p | (refine' o_g rfl rfl ?_ ?_; rotate_left) | apply w_c); (focus simp (disch := first | decide | (try simp only [zz, hz]) <;> omega | fail) only [go_sem, hz, a0, a1] <;> rfl); with_reducible first | apply o_i | apply g_1 | apply g_2 | apply g_3 | apply g_4 | apply c_1 | apply c_2) | apply r_E | apply b_k | apply s_k | apply s_q)
  refine O_call (by simp (disch := first | decide | (try simp only [zz, hz]) <;> omega | fail) only [go_sem, hz, a0, a1] <;> rfl) ?_
  refine C.mono (hf _ _ (hE _ _ he g1) h1) ?_
  rintro v2 σ2 ⟨t2, h2, g2⟩
  have nx2 := g2.next
  repeat (first | apply s_R | apply o_n | ((first | apply o_p | (refine' o_g rfl rfl ?_ ?_; rotate_left) | apply w_c); (focus simp (disch := first | decide | (try simp only [zz, hz]) <;> omega | fail) only [go_sem, hz, a0, a1] <;> rfl); with_reducible first | apply o_i | apply g_1 | apply g_2 | apply g_3 | apply g_4 | apply c_1 | apply c_2) | apply r_E | apply b_k | apply s_k | apply s_q)
  refine O_call (by simp (disch := first | decide | (try simp only [zz, hz]) <;> omega | fail) only [go_sem, hz, a0, a1] <;> rfl) ?_
  refine C.mono (want_c h2 m_rp) ?_
  rintro _ σ3 ⟨h3, g3⟩
  repeat (first | apply s_R | apply o_n | ((first | apply o_p | (refine' o_g rfl rfl ?_ ?_; rotate_left) | apply w_c); (focus simp (disch := first | decide | (try simp only [zz, hz]) <;> omega | fail) only [go_sem, hz, a0, a1] <;> rfl); with_reducible first | apply o_i | apply g_1 | apply g_2 | apply g_3 | apply g_4 | apply c_1 | apply c_2) | apply r_E | apply b_k | apply s_k | apply s_q)
  refine W_ret ?_; (try simp only [Then, Out, Jump, JumpL]); refine ret_mk (by simp (disch := first | decide | (try simp only [zz, hz]) <;> omega | fail) only [go_sem, hz] <;> rfl) ?_; (try simp only [resultA])
  exact ⟨(t2.ks (g3.ks h2.ez)).keep (fun _ _ _ _ => rfl) (Nat.le_refl _) (fun k hk _ => by have := hk; omega), h3, (g1.trans g2).trans g3⟩
theorem libV1_c {E : AW → Prop} (hE : Stable r E) {d : Int} {g : Nat} {fs cs : List Value} {m : SM Tr} (hsh : Shr m) (hf : Reads E 2 r b T d g (fs ++ cs) m) (k0 k1 : Nat) :
    ReadsL (fun σ => E σ ∧ σ.get k0 = ⟨1, 50, 0, [.pointer (some ⟨r, 0, none⟩)]⟩ ∧ σ.get k1 = ⟨1, 96, 0, [.func (.func g) ⟨fs⟩ ⟨cs⟩]⟩ ∧ k0 < σ.next ∧ k1 < σ.next ∧ k0 ≠ r ∧ k1 ≠ r) 2 r b T d 87 ([] ++ [.pointer (some ⟨k0, 0, none⟩), .pointer (some ⟨k1, 0, none⟩)]) (do
      if ← seesS m_rp then pure [] else listS m_comma m) := by
  intro σ s he h
  obtain ⟨he, g0, g1, n0, n1, r0, r1⟩ := he
  have hlr := h.lr
  have hlb := h.lb
  rw [sees_eq]
  refine C_enter rfl Tryz.func87 rfl Tryz.ntmps87 Tryz.results87 (Nat.le_of_ble_eq_true rfl) ?_; intro A hz hA; have a0 := hA 0 _ rfl; have a1 := hA 1 _ rfl; clear hA
  repeat (first | apply s_R | apply o_n | ((first | apply o_p | (refine' o_g rfl rfl ?_ ?_; rotate_left) | apply w_c); (focus simp (disch := first | decide | (try simp only [zz, hz]) <;> omega | fail) only [go_sem, hz, a0, a1, g0] <;> rfl); with_reducible first | apply o_i | apply g_1 | apply g_2 | apply g_3 | apply g_4 | apply c_1 | apply c_2) | apply r_E | apply b_k | apply s_k | apply s_q)
  refine O_call (by simp (disch := first | decide | (try simp only [zz, hz]) <;> omega | fail) only [go_sem, hz, a0, a1] <;> rfl) ?_
  refine C.mono (sees_s h m_rp) ?_
  rintro _ σ1 ⟨rfl, k1'⟩
  have gg := k1'.gr r
  have e0 := (k1'.get _ n0).trans g0
  have e1 := (k1'.get _ n1).trans g1
  cases c : seesB m_rp s with
  | true =>
    rw [if_pos rfl]
    repeat (first | apply s_R | apply o_n | ((first | apply o_p | (refine' o_g rfl rfl ?_ ?_; rotate_left) | apply w_c); (focus simp (disch := first | decide | (try simp only [zz, hz]) <;> omega | fail) only [go_sem, hz] <;> rfl); with_reducible first | apply o_i | apply g_1 | apply g_2 | apply g_3 | apply g_4 | apply c_1 | apply c_2) | apply r_E | apply b_k | apply s_k | apply s_q)
    refine W_ret ?_; (try simp only [Then, Out, Jump, JumpL]); refine ret_mk (by simp (disch := first | decide | (try simp only [zz, hz]) <;> omega | fail) only [go_sem, hz] <;> rfl) ?_; (try simp only [resultA])
    exact ⟨rd_nil _ _ _, h.kp k1', gg⟩
  | false =>
    rw [if_neg (by simp)]
    repeat (first | apply s_R | apply o_n | ((first | apply o_p | (refine' o_g rfl rfl ?_ ?_; rotate_left) | apply w_c); (focus simp (disch := first | decide | (try simp only [zz, hz]) <;> omega | fail) only [go_sem, hz, a0, a1, e0, e1] <;> rfl); with_reducible first | apply o_i | apply g_1 | apply g_2 | apply g_3 | apply g_4 | apply c_1 | apply c_2) | apply r_E | apply b_k | apply s_k | apply s_q)
    refine O_call (by simp (disch := first | decide | (try simp only [zz, hz]) <;> omega | fail) only [go_sem, hz, a0, a1] <;> rfl) ?_
    refine C.mono (listV_c hE hsh hf m_comma _ _ (hE _ _ he gg) (h.kp k1')) ?_
    rintro v σ2 ⟨t2, h2, g2⟩
    have nx := k1'.next
    repeat (first | apply s_R | apply o_n | ((first | apply o_p | (refine' o_g rfl rfl ?_ ?_; rotate_left) | apply w_c); (focus simp (disch := first | decide | (try simp only [zz, hz]) <;> omega | fail) only [go_sem, hz] <;> rfl); with_reducible first | apply o_i | apply g_1 | apply g_2 | apply g_3 | apply g_4 | apply c_1 | apply c_2) | apply r_E | apply b_k | apply s_k | apply s_q)
    refine W_ret ?_; (try simp only [Then, Out, Jump, JumpL]); refine ret_mk (by simp (disch := first | decide | (try simp only [zz, hz]) <;> omega | fail) only [go_sem, hz] <;> rfl) ?_; (try simp only [resultA])
    exact ⟨t2.keep (fun _ _ _ _ => rfl) (Nat.le_refl _) (fun k hk _ => by have := hk; omega), h2, gg.trans g2⟩
theorem libV_c {E : AW → Prop} (hE : Stable r E) {d : Int} {g : Nat} {fs cs : List Value} {m : SM Tr} (hsh : Shr m) (hf : Reads E 2 r b T d g (fs ++ cs) m) :
    ReadsL E 2 r b T d 52 [.pointer (some ⟨r, 0, none⟩), .func (.func g) ⟨fs⟩ ⟨cs⟩] (listInBracketsS m) := by
  intro σ s he h
  have hlr := h.lr
  have hlb := h.lb
  refine C_enter rfl Tryz.func52 rfl Tryz.ntmps52 Tryz.results52 (Nat.le_of_ble_eq_true rfl) ?_; intro A hz hA; have a0 := hA 0 _ rfl; have a1 := hA 1 _ rfl; clear hA
  repeat (first | apply s_R | apply o_n | ((first | apply o_p | (refine' o_g rfl rfl ?_ ?_; rotate_left) | apply w_c); (focus simp (disch := first | decide | (try simp only [zz, hz]) <;> omega | fail) only [go_sem, hz, a0, a1] <;> rfl); with_reducible first | apply o_i | apply g_1 | apply g_2 | apply g_3 | apply g_4 | apply c_1 | apply c_2) | apply r_E | apply b_k | apply s_k | apply s_q)
  refine O_call (by simp (disch := first | decide | (try simp only [zz, hz]) <;> omega | fail) only [go_sem, hz, a0, a1] <;> rfl) ?_
  have kp0 : ∀ B1 B2 : Blk, Kp σ ((σ.push B1).push B2) := fun _ _ => ((Kp.refl σ).push _).push _
  refine C.mono (inbLV_c (fs := []) (cs := [.pointer (some ⟨σ.next, 0, none⟩), .pointer (some ⟨σ.next + 1, 0, none⟩)]) (fun τ τ' he g => ⟨hE _ _ he.1 g, (g.get _ he.2.2.2.1 he.2.2.2.2.2.1).trans he.2.1, (g.get _ he.2.2.2.2.1 he.2.2.2.2.2.2).trans he.2.2.1, Nat.lt_of_lt_of_le he.2.2.2.1 g.next, Nat.lt_of_lt_of_le he.2.2.2.2.1 g.next, he.2.2.2.2.2⟩) (libV1_c hE hsh hf σ.next (σ.next + 1)) _ _ (by refine' ⟨hE _ _ he ((kp0 _ _).gr r), ?_, ?_, by first | omega | (simp only [push_next, set_next]; first | done | omega), by first | omega | (simp only [push_next, set_next]; first | done | omega), by omega, by omega⟩; any_goals simp (disch := first | decide | (try simp only [zz, hz]) <;> omega | fail) only [go_sem, hz] <;> rfl) (h.kp (kp0 _ _))) ?_
  rintro v σ2 ⟨t2, h2, g2⟩
  repeat (first | apply s_R | apply o_n | ((first | apply o_p | (refine' o_g rfl rfl ?_ ?_; rotate_left) | apply w_c); (focus simp (disch := first | decide | (try simp only [zz, hz]) <;> omega | fail) only [go_sem, hz] <;> rfl); with_reducible first | apply o_i | apply g_1 | apply g_2 | apply g_3 | apply g_4 | apply c_1 | apply c_2) | apply r_E | apply b_k | apply s_k | apply s_q)
  refine W_ret ?_; (try simp only [Then, Out, Jump, JumpL]); refine ret_mk (by simp (disch := first | decide | (try simp only [zz, hz]) <;> omega | fail) only [go_sem, hz] <;> rfl) ?_; (try simp only [resultA])
  exact ⟨t2.keep (fun _ _ _ _ => rfl) (Nat.le_refl _) (fun k hk _ => by have := hk; simp only [push_next] at this; omega), h2, g2.unpush.unpush⟩
theorem libE1_c {E : AW → Prop} (hE : Stable r E) {d : Int} {g : Nat} {fs cs : List Value} {m : SM Tr} (hsh : Shr m) (hf : Reads E 6 r b T d g (fs ++ cs) m) (k0 k1 : Nat) :
    ReadsL (fun σ => E σ ∧ σ.get k0 = ⟨1, 50, 0, [.pointer (some ⟨r, 0, none⟩)]⟩ ∧ σ.get k1 = ⟨1, 60, 0, [.func (.func g) ⟨fs⟩ ⟨cs⟩]⟩ ∧ k0 < σ.next ∧ k1 < σ.next ∧ k0 ≠ r ∧ k1 ≠ r) 6 r b T d 112 ([] ++ [.pointer (some ⟨k0, 0, none⟩), .pointer (some ⟨k1, 0, none⟩)]) (do
      if ← seesS m_rp then pure [] else listS m_comma m) := by
  intro σ s he h
  obtain ⟨he, g0, g1, n0, n1, r0, r1⟩ := he
  have hlr := h.lr
  have hlb := h.lb
  rw [sees_eq]
  refine C_enter rfl Tryz.func112 rfl Tryz.ntmps112 Tryz.results112 (Nat.le_of_ble_eq_true rfl) ?_; intro A hz hA; have a0 := hA 0 _ rfl; have a1 := hA 1 _ rfl; clear hA
  repeat (first | apply s_R | apply o_n | ((first | apply o_p | (refine' o_g rfl rfl ?_ ?_; rotate_left) | apply w_c); (focus simp (disch := first | decide | (try simp only [zz, hz]) <;> omega | fail) only [go_sem, hz, a0, a1, g0] <;> rfl); with_reducible first | apply o_i | apply g_1 | apply g_2 | apply g_3 | apply g_4 | apply c_1 | apply c_2) | apply r_E | apply b_k | apply s_k | apply s_q)
  refine O_call (by simp (disch := first | decide | (try simp only [zz, hz]) <;> omega | fail) only [go_sem, hz, a0, a1] <;> rfl) ?_
  refine C.mono (sees_s h m_rp) ?_
  rintro _ σ1 ⟨rfl, k1'⟩
  have gg := k1'.gr r
  have e0 := (k1'.get _ n0).trans g0
  have e1 := (k1'.get _ n1).trans g1
  cases c : seesB m_rp s with
  | true =>
    rw [if_pos rfl]
    repeat (first | apply s_R | apply o_n | ((first | apply o_p | (refine' o_g rfl rfl ?_ ?_; rotate_left) | apply w_c); (focus simp (disch := first | decide | (try simp only [zz, hz]) <;> omega | fail) only [go_sem, hz] <;> rfl); with_reducible first | apply o_i | apply g_1 | apply g_2 | apply g_3 | apply g_4 | apply c_1 | apply c_2) | apply r_E | apply b_k | apply s_k | apply s_q)
    refine W_ret ?_; (try simp only [Then, Out, Jump, JumpL]); refine ret_mk (by simp (disch := first | decide | (try simp only [zz, hz]) <;> omega | fail) only [go_sem, hz] <;> rfl) ?_; (try simp only [resultA])
    exact ⟨rd_nil _ _ _, h.kp k1', gg⟩
  | false =>
    rw [if_neg (by simp)]
    repeat (first | apply s_R | apply o_n | ((first | apply o_p | (refine' o_g rfl rfl ?_ ?_; rotate_left) | apply w_c); (focus simp (disch := first | decide | (try simp only [zz, hz]) <;> omega | fail) only [go_sem, hz, a0, a1, e0, e1] <;> rfl); with_reducible first | apply o_i | apply g_1 | apply g_2 | apply g_3 | apply g_4 | apply c_1 | apply c_2) | apply r_E | apply b_k | apply s_k | apply s_q)
    refine O_call (by simp (disch := first | decide | (try simp only [zz, hz]) <;> omega | fail) only [go_sem, hz, a0, a1] <;> rfl) ?_
    refine C.mono (listE_c hE hsh hf m_comma _ _ (hE _ _ he gg) (h.kp k1')) ?_
    rintro v σ2 ⟨t2, h2, g2⟩
    have nx := k1'.next
    repeat (first | apply s_R | apply o_n | ((first | apply o_p | (refine' o_g rfl rfl ?_ ?_; rotate_left) | apply w_c); (focus simp (disch := first | decide | (try simp only [zz, hz]) <;> omega | fail) only [go_sem, hz] <;> rfl); with_reducible first | apply o_i | apply g_1 | apply g_2 | apply g_3 | apply g_4 | apply c_1 | apply c_2) | apply r_E | apply b_k | apply s_k | apply s_q)
    refine W_ret ?_; (try simp only [Then, Out, Jump, JumpL]); refine ret_mk (by simp (disch := first | decide | (try simp only [zz, hz]) <;> omega | fail) only [go_sem, hz] <;> rfl) ?_; (try simp only [resultA])
    exact ⟨t2.keep (fun _ _ _ _ => rfl) (Nat.le_refl _) (fun k hk _ => by have := hk; omega), h2, gg.trans g2⟩
theorem libE_c {E : AW → Prop} (hE : Stable r E) {d : Int} {g : Nat} {fs cs : List Value} {m : SM Tr} (hsh : Shr m) (hf : Reads E 6 r b T d g (fs ++ cs) m) :
    ReadsL E 6 r b T d 107 [.pointer (some ⟨r, 0, none⟩), .func (.func g) ⟨fs⟩ ⟨cs⟩] (listInBracketsS m) := by
  intro σ s he h
  have hlr := h.lr
  have hlb := h.lb
  refine C_enter rfl Tryz.func107 rfl Tryz.ntmps107 Tryz.results107 (Nat.le_of_ble_eq_true rfl) ?_; intro A hz hA; have a0 := hA 0 _ rfl; have a1 := hA 1 _ rfl; clear hA
  repeat (first | apply s_R | apply o_n | ((first | apply o_p | (refine' o_g rfl rfl ?_ ?_; rotate_left) | apply w_c); (focus simp (disch := first | decide | (try simp only [zz, hz]) <;> omega | fail) only [go_sem, hz, a0, a1] <;> rfl); with_reducible first | apply o_i | apply g_1 | apply g_2 | apply g_3 | apply g_4 | apply c_1 | apply c_2) | apply r_E | apply b_k | apply s_k | apply s_q)
  refine O_call (by simp (disch := first | decide | (try simp only [zz, hz]) <;> omega | fail) only [go_sem, hz, a0, a1] <;> rfl) ?_
  have kp0 : ∀ B1 B2 : Blk, Kp σ ((σ.push B1).push B2) := fun _ _ => ((Kp.refl σ).push _).push _
  refine C.mono (inbLE_c (fs := []) (cs := [.pointer (some ⟨σ.next, 0, none⟩), .pointer (some ⟨σ.next + 1, 0, none⟩)]) (fun τ τ' he g => ⟨hE _ _ he.1 g, (g.get _ he.2.2.2.1 he.2.2.2.2.2.1).trans he.2.1, (g.get _ he.2.2.2.2.1 he.2.2.2.2.2.2).trans he.2.2.1, Nat.lt_of_lt_of_le he.2.2.2.1 g.next, Nat.lt_of_lt_of_le he.2.2.2.2.1 g.next, he.2.2.2.2.2⟩) (libE1_c hE hsh hf σ.next (σ.next + 1)) _ _ (by refine' ⟨hE _ _ he ((kp0 _ _).gr r), ?_, ?_, by first | omega | (simp only [push_next, set_next]; first | done | omega), by first | omega | (simp only [push_next, set_next]; first | done | omega), by omega, by omega⟩; any_goals simp (disch := first | decide | (try simp only [zz, hz]) <;> omega | fail) only [go_sem, hz] <;> rfl) (h.kp (kp0 _ _))) ?_
  rintro v σ2 ⟨t2, h2, g2⟩
  repeat (first | apply s_R | apply o_n | ((first | apply o_p | (refine' o_g rfl rfl ?_ ?_; rotate_left) | apply w_c); (focus simp (disch := first | decide | (try simp only [zz, hz]) <;> omega | fail) only [go_sem, hz] <;> rfl); with_reducible first | apply o_i | apply g_1 | apply g_2 | apply g_3 | apply g_4 | apply c_1 | apply c_2) | apply r_E | apply b_k | apply s_k | apply s_q)
  refine W_ret ?_; (try simp only [Then, Out, Jump, JumpL]); refine ret_mk (by simp (disch := first | decide | (try simp only [zz, hz]) <;> omega | fail) only [go_sem, hz] <;> rfl) ?_; (try simp only [resultA])
  exact ⟨t2.keep (fun _ _ _ _ => rfl) (Nat.le_refl _) (fun k hk _ => by have := hk; simp only [push_next] at this; omega), h2, g2.unpush.unpush⟩
end
end Go.Proofs.YtckidlbmoalomaaGreatDoor
