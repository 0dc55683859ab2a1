/- The document's comparison of statements: two that read as the same are the same. -/
import Derived.Test.YtckidlbmoalomaaGreatDoorJ21


namespace Go.Proofs.YtckidlbmoalomaaGreatDoor
open Go.RowKit
set_option maxRecDepth 10000
set_option linter.unusedSimpArgs false
set_option linter.unusedVariables false

theorem sameTs_c {ps : List Tr} (hlen : ps.length ≤ 1000000) (hs : ∀ p ∈ ps, isText p) : SameC 13 1 ps := by
  intro σ v v' h h'
  have l1 : ∀ τ, lenA Tryz.prog τ 53 v = some (.int .i64 ps.length) := fun τ => by obtain ⟨a, c, rfl⟩ := rd_len h; exact ln_53 τ a _ c
  have l2 : ∀ τ, lenA Tryz.prog τ 53 v' = some (.int .i64 ps.length) := fun τ => by obtain ⟨a, c, rfl⟩ := rd_len h'; exact ln_53 τ a _ c
  refine C_enter rfl Tryz.func13 rfl Tryz.ntmps13 Tryz.results13 (Nat.le_of_ble_eq_true rfl) ?_; intro A hz hA; have a0 := hA 0 _ rfl; have a1 := hA 1 _ rfl; clear hA
  have q1 : ((ps.length : Int) != (ps.length : Int)) = false := by simp
  repeat (first | apply s_R | apply o_n | ((first | apply o_p | (refine' o_g rfl rfl ?_ ?_; rotate_left) | apply w_c); (focus simp (disch := first | decide | (try simp only [zz, hz]) <;> omega | fail) only [go_sem, hz, a0, a1, l1, l2, q1] <;> rfl); with_reducible first | apply o_i | apply g_1 | apply g_2 | apply g_3 | apply g_4 | apply c_1 | apply c_2) | apply r_E | apply b_k | apply s_k | apply s_q)
  refine W_loop (WL_inv (fun m B σ1 => ∃ i, i ≤ ps.length ∧ m = ps.length - i ∧ B.size = 26 ∧ B.get 0 = some v ∧ B.get 1 = some v' ∧ B.get 5 = some (.int .i64 (i : Int)) ∧ Kp σ σ1) ?_ (m := ps.length) (by refine' ⟨0, Nat.zero_le _, rfl, ?_, ?_, ?_, ?_, Kp.refl σ⟩; any_goals simp (disch := first | decide | (try simp only [zz, hz]) <;> omega | fail) only [go_sem, hz, a0, a1] <;> rfl))
  rintro m B σ1 ⟨i, hi, rfl, hz, b0, b1, b5, kp⟩
  by_cases hlt : i < ps.length
  · have c1 : decide ((i : Int) < (ps.length : Int)) = true := by simp [hlt]
    obtain ⟨ba, o, c, cs, x, rfl, hrow, hel, htk, hx, hxl⟩ := rd_el h sz_9 hlt
    obtain ⟨ba', o', c', cs', x', rfl, hrow', hel', htk', hx', hxl'⟩ := rd_el h' sz_9 hlt
    have hr1 := hrow _ kp
    have hr2 := hrow' _ kp
    obtain ⟨s, hp⟩ := hs _ (List.getElem_mem hlt)
    rw [hp] at hx hx'
    simp only [rd_str] at hx hx'
    subst hx
    subst hx'
    have hg : cs[o + i * 1]? = some (.string s) := by
      have := congrArg (fun l => l[0]?) htk
      simpa [cellsL] using this
    have hg' : cs'[o' + i * 1]? = some (.string s) := by
      have := congrArg (fun l => l[0]?) htk'
      simpa [cellsL] using this
    repeat (first | apply s_R | apply o_n | ((first | apply o_p | (refine' o_g rfl rfl ?_ ?_; rotate_left) | apply w_c); (focus simp (disch := first | decide | (try simp only [zz, hz]) <;> omega | fail) only [go_sem, hz, b0, b1, b5, c1, l1] <;> rfl); with_reducible first | apply o_i | apply g_1 | apply g_2 | apply g_3 | apply g_4 | apply c_1 | apply c_2) | apply r_E | apply b_k | apply s_k | apply s_q)
    refine W_regDE mixed (by kernel_rfl) (by kernel_rfl) ?_
    have q2 : decide (s = s) = true := by simp
    repeat (apply v_x; (focus simp (disch := first | decide | (try simp only [zz, hz]) <;> omega | fail) only [go_sem, hz, b0, b1, b5, hel, hel', ↓hr1, ↓hr2, hg, hg', q2] <;> rfl); first | refine vX_n ?_ | refine vX_l ?_ | refine vX_e ?_)
    refine V_nil ?_; refine And.intro (owes_by (L := [(3, 0), (7, 0)]) ?_ ?_) ?_; rotate_left 2; (try simp only [Then, Out, JumpL]); rotate_right 2; focus (kernel_rfl)
    · (repeat (refine owe_cons (Owed_op rfl rfl rfl rfl rfl (by simp (disch := first | decide | (try simp only [zz, hz]) <;> omega | fail) only [go_sem, hz, b0, b1, b5, hel, hel', ↓hr1, ↓hr2, hg, hg'] <;> rfl)) ?_)); exact owe_nil
    have hadd : fastB .add (.int .i64 (i : Int)) (.int .i64 1) = some (.int .i64 ((i + 1 : Nat) : Int)) := by rw [bin_addI (by omega) (by omega)]; rfl
    repeat (first | apply s_R | apply o_n | ((first | apply o_p | (refine' o_g rfl rfl ?_ ?_; rotate_left) | apply w_c); (focus simp (disch := first | decide | (try simp only [zz, hz]) <;> omega | fail) only [go_sem, hz, b0, b1, b5, hadd] <;> rfl); with_reducible first | apply o_i | apply g_1 | apply g_2 | apply g_3 | apply g_4 | apply c_1 | apply c_2) | apply r_E | apply b_k | apply s_k | apply s_q)
    exact (by refine' ⟨ps.length - (i + 1), by omega, i + 1, hlt, rfl, ?_, ?_, ?_, ?_, kp⟩; any_goals simp (disch := first | decide | (try simp only [zz, hz]) <;> omega | fail) only [go_sem, hz, b0, b1] <;> rfl)
  · have c1 : decide ((i : Int) < (ps.length : Int)) = false := by simp [hlt]
    repeat (first | apply s_R | apply o_n | ((first | apply o_p | (refine' o_g rfl rfl ?_ ?_; rotate_left) | apply w_c); (focus simp (disch := first | decide | (try simp only [zz, hz]) <;> omega | fail) only [go_sem, hz, b0, b1, b5, c1, l1] <;> rfl); with_reducible first | apply o_i | apply g_1 | apply g_2 | apply g_3 | apply g_4 | apply c_1 | apply c_2) | apply r_E | apply b_k | apply s_k | apply s_q)
    refine W_exit ?_; simp only [Then, Out, JumpL, reduceIte, Nat.reduceEqDiff]
    repeat (first | apply s_R | apply o_n | ((first | apply o_p | (refine' o_g rfl rfl ?_ ?_; rotate_left) | apply w_c); (focus simp (disch := first | decide | (try simp only [zz, hz]) <;> omega | fail) only [go_sem, hz] <;> rfl); with_reducible first | apply o_i | apply g_1 | apply g_2 | apply g_3 | apply g_4 | apply c_1 | apply c_2) | apply r_E | apply b_k | apply s_k | apply s_q)
    refine W_ret ?_; (try simp only [Then, Out, Jump, JumpL]); refine ret_mk (by simp (disch := first | decide | (try simp only [zz, hz]) <;> omega | fail) only [go_sem, hz] <;> rfl) ?_; (try simp only [resultA])
    exact ⟨by first | rfl | trivial, kp⟩
def SameP (ps : List Tr) : Prop := ∀ σ v v', Rd σ TT (sl 9 ps) v → Rd σ TT (sl 9 ps) v' → C Tryz.prog 6 [v, v', .bool true] σ fun r σ' => r = .bool true ∧ Kp σ σ'
def StmtsOK (l : List Tr) : Prop := ∀ x ∈ l, ∃ k a t nm es qs wh b c, x = mkS k a t nm es qs wh b c ∧ SameC 13 1 nm ∧ SameC 14 6 es ∧ SameC 15 10 qs ∧ SameC 14 6 wh ∧ SameP b ∧ SameP c
set_option maxHeartbeats 3200000 in
theorem sameSs_c {ps : List Tr} (hlen : ps.length ≤ 1000000) (hs : StmtsOK ps) : SameP ps := by
  intro σ v v' h h'
  have l1 : ∀ τ, lenA Tryz.prog τ 25 v = some (.int .i64 ps.length) := fun τ => by obtain ⟨a, c, rfl⟩ := rd_len h; exact ln_25 τ a _ c
  have l2 : ∀ τ, lenA Tryz.prog τ 25 v' = some (.int .i64 ps.length) := fun τ => by obtain ⟨a, c, rfl⟩ := rd_len h'; exact ln_25 τ a _ c
  refine C_enter rfl Tryz.func6 rfl Tryz.ntmps6 Tryz.results6 (Nat.le_of_ble_eq_true rfl) ?_; intro A hz hA; have a0 := hA 0 _ rfl; have a1 := hA 1 _ rfl; have a2 := hA 2 _ rfl; clear hA
  have q1 : ((ps.length : Int) != (ps.length : Int)) = false := by simp
  repeat (first | apply s_R | apply o_n | ((first | apply o_p | (refine' o_g rfl rfl ?_ ?_; rotate_left) | apply w_c); (focus simp (disch := first | decide | (try simp only [zz, hz]) <;> omega | fail) only [go_sem, hz, a0, a1, a2, l1, l2, q1] <;> rfl); with_reducible first | apply o_i | apply g_1 | apply g_2 | apply g_3 | apply g_4 | apply c_1 | apply c_2) | apply r_E | apply b_k | apply s_k | apply s_q)
  refine W_loop (WL_inv (fun m B σ1 => ∃ i, i ≤ ps.length ∧ m = ps.length - i ∧ B.size = 101 ∧ B.get 0 = some v ∧ B.get 1 = some v' ∧ B.get 2 = some (.bool true) ∧ B.get 7 = some (.int .i64 (i : Int)) ∧ Kp σ σ1) ?_ (m := ps.length) (by refine' ⟨0, Nat.zero_le _, rfl, ?_, ?_, ?_, ?_, ?_, Kp.refl σ⟩; any_goals simp (disch := first | decide | (try simp only [zz, hz]) <;> omega | fail) only [go_sem, hz, a0, a1, a2] <;> rfl))
  rintro m B σ1 ⟨i, hi, rfl, hz, b0, b1, b2, b7, kp⟩
  by_cases hlt : i < ps.length
  · have c1 : decide ((i : Int) < (ps.length : Int)) = true := by simp [hlt]
    obtain ⟨ba, o, c, cs, x, rfl, hrow, hel, htk, hx, hxl⟩ := rd_el h sz_55 hlt
    obtain ⟨ba', o', c', cs', x', rfl, hrow', hel', htk', hx', hxl'⟩ := rd_el h' sz_55 hlt
    have hr1 := hrow _ kp
    have hr2 := hrow' _ kp
    obtain ⟨k, at_, t, nm, es, qs, wh, bd, el, e, hnm, hes, hqs, hwh, hbd, hel0⟩ := hs _ (List.getElem_mem hlt)
    rw [e] at hx hx'
    obtain ⟨l, rfl, _, _, rfl, rfl, _, _, rfl, rfl, _, _, rfl, rfl, v1, _, rfl, h1, v2, _, rfl, h2, v3, _, rfl, h3, v4, _, rfl, h4, v5, _, rfl, h5, v6, _, rfl, h6, rfl⟩ := rd_agg.1 hx
    obtain ⟨l', rfl, _, _, rfl, rfl, _, _, rfl, rfl, _, _, rfl, rfl, u1, _, rfl, j1, u2, _, rfl, j2, u3, _, rfl, j3, u4, _, rfl, j4, u5, _, rfl, j5, u6, _, rfl, j6, rfl⟩ := rd_agg.1 hx'
    simp only [cellsL] at htk htk' hxl hxl'
    obtain ⟨x1, y1, z1, rfl⟩ := rd_shape h1
    obtain ⟨p1, r1, w1, rfl⟩ := rd_shape j1
    obtain ⟨x2, y2, z2, rfl⟩ := rd_shape h2
    obtain ⟨p2, r2, w2, rfl⟩ := rd_shape j2
    obtain ⟨x3, y3, z3, rfl⟩ := rd_shape h3
    obtain ⟨p3, r3, w3, rfl⟩ := rd_shape j3
    obtain ⟨x4, y4, z4, rfl⟩ := rd_shape h4
    obtain ⟨p4, r4, w4, rfl⟩ := rd_shape j4
    obtain ⟨x5, y5, z5, rfl⟩ := rd_shape h5
    obtain ⟨p5, r5, w5, rfl⟩ := rd_shape j5
    obtain ⟨x6, y6, z6, rfl⟩ := rd_shape h6
    obtain ⟨p6, r6, w6, rfl⟩ := rd_shape j6
    have q2 : (k != k) = false := by simp
    have q3 : (at_ != at_) = false := by simp
    have hn1 : σ.next ≤ σ1.next := kp.next
    have hp1 : ∀ B1, ∀ q, rowOf (σ1.push B1) ⟨ba, q, none⟩ = some cs := fun B1 => hrow _ (kp.push B1)
    have hp2 : ∀ B1 B2, ∀ q, rowOf ((σ1.push B1).push B2) ⟨ba, q, none⟩ = some cs := fun B1 B2 => hrow _ ((kp.push B1).push B2)
    have hp3 : ∀ B1, ∀ q, rowOf (σ1.push B1) ⟨ba', q, none⟩ = some cs' := fun B1 => hrow' _ (kp.push B1)
    have hp4 : ∀ B1 B2, ∀ q, rowOf ((σ1.push B1).push B2) ⟨ba', q, none⟩ = some cs' := fun B1 B2 => hrow' _ ((kp.push B1).push B2)
    have hp5 : ∀ B1 B2 B3, ∀ q, rowOf (((σ1.push B1).push B2).set σ1.next B3) ⟨ba', q, none⟩ = some cs' := fun B1 B2 B3 => hrow' _ (((kp.push B1).push B2).set hn1 _)
    repeat (first | apply s_R | apply o_n | ((first | apply o_p | (refine' o_g rfl rfl ?_ ?_; rotate_left) | apply w_c); (focus simp (disch := first | decide | (try simp only [zz, hz]) <;> omega | fail) only [go_sem, hz, b0, b1, b7, c1, l1] <;> rfl); with_reducible first | apply o_i | apply g_1 | apply g_2 | apply g_3 | apply g_4 | apply c_1 | apply c_2) | apply r_E | apply b_k | apply s_k | apply s_q)
    refine W_regDE mixed (by kernel_rfl) (floatFit_by (i := 9) (d := 9) (by kernel_rfl) rfl rfl (by simp only [put_size, hz]; decide)) ?_
    repeat (apply v_x; (focus simp (disch := first | decide | (try simp only [zz, hz]) <;> omega | fail) only [go_sem, hz, b0, b1, b7, hel, hel', ↓hr1, ↓hr2, htk, htk', hxl, hxl'] <;> rfl); first | refine vX_n ?_ | refine vX_l ?_ | refine vX_e ?_)
    refine V_nil ?_; refine And.intro (owes_by (L := [(3, 0), (3, 9), (3, 10), (7, 0), (7, 9), (7, 10), (7, 11)]) ?_ ?_) ?_; rotate_left 2; (try simp only [Then, Out, JumpL]); rotate_right 2; focus (kernel_rfl)
    · (repeat (refine owe_cons (Owed_op rfl rfl rfl rfl rfl (by simp (disch := first | decide | (try simp only [zz, hz]) <;> omega | fail) only [go_sem, hz, b0, b1, b7, hel, hel', ↓hr1, ↓hr2, ↓hp1, ↓hp2, ↓hp3, ↓hp4, ↓hp5, htk, htk', hxl, hxl'] <;> rfl)) ?_)); exact owe_nil
    repeat (first | apply s_R | apply o_n | ((first | apply o_p | (refine' o_g rfl rfl ?_ ?_; rotate_left) | apply w_c); (focus simp (disch := first | decide | (try simp only [zz, hz]) <;> omega | fail) only [go_sem, hz, b2, q2, q3] <;> rfl); with_reducible first | apply o_i | apply g_1 | apply g_2 | apply g_3 | apply g_4 | apply c_1 | apply c_2) | apply r_E | apply b_k | apply s_k | apply s_q)
    obtain ⟨τ0, hτ⟩ : ∃ τ, τ = (((σ1.push ⟨1, 55, 0, [.int .i64 0, .int .i64 0, .string ⟨#[]⟩, .slice none 0 0, .slice none 0 0, .slice none 0 0, .slice none 0 0, .slice none 0 0, .slice none 0 0]⟩).push ⟨1, 55, 0, [.int .i64 0, .int .i64 0, .string ⟨#[]⟩, .slice none 0 0, .slice none 0 0, .slice none 0 0, .slice none 0 0, .slice none 0 0, .slice none 0 0]⟩).set σ1.next ⟨1, 55, 0, [.int .i64 k, .int .i64 at_, .string t, .slice x1 y1 z1, .slice x2 y2 z2, .slice x3 y3 z3, .slice x4 y4 z4, .slice x5 y5 z5, .slice x6 y6 z6]⟩).set (σ1.next + 1) ⟨1, 55, 0, [.int .i64 k, .int .i64 at_, .string t, .slice p1 r1 w1, .slice p2 r2 w2, .slice p3 r3 w3, .slice p4 r4 w4, .slice p5 r5 w5, .slice p6 r6 w6]⟩ := ⟨_, rfl⟩
    have kq : Kp σ1 τ0 := by rw [hτ]; exact ((((Kp.refl σ1).push _).push _).set (Nat.le_refl _) _).set (by omega) _
    have nx0 : τ0.next = σ1.next + 1 + 1 := by rw [hτ]; rfl
    have gA1 : τ0.get σ1.next = ⟨1, 55, 0, [.int .i64 k, .int .i64 at_, .string t, .slice x1 y1 z1, .slice x2 y2 z2, .slice x3 y3 z3, .slice x4 y4 z4, .slice x5 y5 z5, .slice x6 y6 z6]⟩ := by rw [hτ]; exact by simp (disch := first | decide | (try simp only [zz, hz]) <;> omega | fail) only [go_sem, hz] <;> rfl
    have gB1 : τ0.get (σ1.next + 1) = ⟨1, 55, 0, [.int .i64 k, .int .i64 at_, .string t, .slice p1 r1 w1, .slice p2 r2 w2, .slice p3 r3 w3, .slice p4 r4 w4, .slice p5 r5 w5, .slice p6 r6 w6]⟩ := by rw [hτ]; exact by simp (disch := first | decide | (try simp only [zz, hz]) <;> omega | fail) only [go_sem, hz] <;> rfl
    rw [← hτ]
    clear hτ
    have kp2 := kp.trans kq
    refine O_call (by simp (disch := first | decide | (try simp only [zz, hz]) <;> omega | fail) only [go_sem, hz, b2] <;> rfl) ?_
    refine C.mono (hnm _ _ _ (h1.kp kp2) (j1.kp kp2)) ?_
    rintro _ τ1 ⟨rfl, rr1⟩
    replace kp2 := kp2.trans rr1
    have ny1 := rr1.next
    have gA2 := (rr1.get _ (by omega)).trans gA1
    have gB2 := (rr1.get _ (by omega)).trans gB1
    repeat (first | apply s_R | apply o_n | ((first | apply o_p | (refine' o_g rfl rfl ?_ ?_; rotate_left) | apply w_c); (focus simp (disch := first | decide | (try simp only [zz, hz]) <;> omega | fail) only [go_sem, hz, b2, gA2, gB2] <;> rfl); with_reducible first | apply o_i | apply g_1 | apply g_2 | apply g_3 | apply g_4 | apply c_1 | apply c_2) | apply r_E | apply b_k | apply s_k | apply s_q)
    refine O_call (by simp (disch := first | decide | (try simp only [zz, hz]) <;> omega | fail) only [go_sem, hz, b2] <;> rfl) ?_
    refine C.mono (hes _ _ _ (h2.kp kp2) (j2.kp kp2)) ?_
    rintro _ τ2 ⟨rfl, rr2⟩
    replace kp2 := kp2.trans rr2
    have ny2 := rr2.next
    have gA3 := (rr2.get _ (by omega)).trans gA2
    have gB3 := (rr2.get _ (by omega)).trans gB2
    repeat (first | apply s_R | apply o_n | ((first | apply o_p | (refine' o_g rfl rfl ?_ ?_; rotate_left) | apply w_c); (focus simp (disch := first | decide | (try simp only [zz, hz]) <;> omega | fail) only [go_sem, hz, b2, gA3, gB3] <;> rfl); with_reducible first | apply o_i | apply g_1 | apply g_2 | apply g_3 | apply g_4 | apply c_1 | apply c_2) | apply r_E | apply b_k | apply s_k | apply s_q)
    refine O_call (by simp (disch := first | decide | (try simp only [zz, hz]) <;> omega | fail) only [go_sem, hz, b2] <;> rfl) ?_
    refine C.mono (hqs _ _ _ (h3.kp kp2) (j3.kp kp2)) ?_
    rintro _ τ3 ⟨rfl, rr3⟩
    replace kp2 := kp2.trans rr3
    have ny3 := rr3.next
    have gA4 := (rr3.get _ (by omega)).trans gA3
    have gB4 := (rr3.get _ (by omega)).trans gB3
    repeat (first | apply s_R | apply o_n | ((first | apply o_p | (refine' o_g rfl rfl ?_ ?_; rotate_left) | apply w_c); (focus simp (disch := first | decide | (try simp only [zz, hz]) <;> omega | fail) only [go_sem, hz, b2, gA4, gB4] <;> rfl); with_reducible first | apply o_i | apply g_1 | apply g_2 | apply g_3 | apply g_4 | apply c_1 | apply c_2) | apply r_E | apply b_k | apply s_k | apply s_q)
    refine O_call (by simp (disch := first | decide | (try simp only [zz, hz]) <;> omega | fail) only [go_sem, hz, b2] <;> rfl) ?_
    refine C.mono (hwh _ _ _ (h4.kp kp2) (j4.kp kp2)) ?_
    rintro _ τ4 ⟨rfl, rr4⟩
    replace kp2 := kp2.trans rr4
    have ny4 := rr4.next
    have gA5 := (rr4.get _ (by omega)).trans gA4
    have gB5 := (rr4.get _ (by omega)).trans gB4
    repeat (first | apply s_R | apply o_n | ((first | apply o_p | (refine' o_g rfl rfl ?_ ?_; rotate_left) | apply w_c); (focus simp (disch := first | decide | (try simp only [zz, hz]) <;> omega | fail) only [go_sem, hz, b2, gA5, gB5] <;> rfl); with_reducible first | apply o_i | apply g_1 | apply g_2 | apply g_3 | apply g_4 | apply c_1 | apply c_2) | apply r_E | apply b_k | apply s_k | apply s_q)
    refine O_call (by simp (disch := first | decide | (try simp only [zz, hz]) <;> omega | fail) only [go_sem, hz, b2] <;> rfl) ?_
    refine C.mono (hbd _ _ _ (h5.kp kp2) (j5.kp kp2)) ?_
    rintro _ τ5 ⟨rfl, rr5⟩
    replace kp2 := kp2.trans rr5
    have ny5 := rr5.next
    have gA6 := (rr5.get _ (by omega)).trans gA5
    have gB6 := (rr5.get _ (by omega)).trans gB5
    repeat (first | apply s_R | apply o_n | ((first | apply o_p | (refine' o_g rfl rfl ?_ ?_; rotate_left) | apply w_c); (focus simp (disch := first | decide | (try simp only [zz, hz]) <;> omega | fail) only [go_sem, hz, b2, gA6, gB6] <;> rfl); with_reducible first | apply o_i | apply g_1 | apply g_2 | apply g_3 | apply g_4 | apply c_1 | apply c_2) | apply r_E | apply b_k | apply s_k | apply s_q)
    refine O_call (by simp (disch := first | decide | (try simp only [zz, hz]) <;> omega | fail) only [go_sem, hz, b2] <;> rfl) ?_
    refine C.mono (hel0 _ _ _ (h6.kp kp2) (j6.kp kp2)) ?_
    rintro _ τ6 ⟨rfl, rr6⟩
    replace kp2 := kp2.trans rr6
    have ny6 := rr6.next
    have gA7 := (rr6.get _ (by omega)).trans gA6
    have gB7 := (rr6.get _ (by omega)).trans gB6
    repeat (first | apply s_R | apply o_n | ((first | apply o_p | (refine' o_g rfl rfl ?_ ?_; rotate_left) | apply w_c); (focus simp (disch := first | decide | (try simp only [zz, hz]) <;> omega | fail) only [go_sem, hz, b2, gA7, gB7] <;> rfl); with_reducible first | apply o_i | apply g_1 | apply g_2 | apply g_3 | apply g_4 | apply c_1 | apply c_2) | apply r_E | apply b_k | apply s_k | apply s_q)
    have hadd : fastB .add (.int .i64 (i : Int)) (.int .i64 1) = some (.int .i64 ((i + 1 : Nat) : Int)) := by rw [bin_addI (by omega) (by omega)]; rfl
    repeat (first | apply s_R | apply o_n | ((first | apply o_p | (refine' o_g rfl rfl ?_ ?_; rotate_left) | apply w_c); (focus simp (disch := first | decide | (try simp only [zz, hz]) <;> omega | fail) only [go_sem, hz, b0, b1, b2, b7, hadd] <;> rfl); with_reducible first | apply o_i | apply g_1 | apply g_2 | apply g_3 | apply g_4 | apply c_1 | apply c_2) | apply r_E | apply b_k | apply s_k | apply s_q)
    exact (by refine' ⟨ps.length - (i + 1), by omega, i + 1, hlt, rfl, ?_, ?_, ?_, ?_, ?_, kp2⟩; any_goals simp (disch := first | decide | (try simp only [zz, hz]) <;> omega | fail) only [go_sem, hz, b0, b1, b2] <;> rfl)
  · have c1 : decide ((i : Int) < (ps.length : Int)) = false := by simp [hlt]
    repeat (first | apply s_R | apply o_n | ((first | apply o_p | (refine' o_g rfl rfl ?_ ?_; rotate_left) | apply w_c); (focus simp (disch := first | decide | (try simp only [zz, hz]) <;> omega | fail) only [go_sem, hz, b0, b1, b7, c1, l1] <;> rfl); with_reducible first | apply o_i | apply g_1 | apply g_2 | apply g_3 | apply g_4 | apply c_1 | apply c_2) | apply r_E | apply b_k | apply s_k | apply s_q)
    refine W_exit ?_; simp only [Then, Out, JumpL, reduceIte, Nat.reduceEqDiff]
    repeat (first | apply s_R | apply o_n | ((first | apply o_p | (refine' o_g rfl rfl ?_ ?_; rotate_left) | apply w_c); (focus simp (disch := first | decide | (try simp only [zz, hz]) <;> omega | fail) only [go_sem, hz] <;> rfl); with_reducible first | apply o_i | apply g_1 | apply g_2 | apply g_3 | apply g_4 | apply c_1 | apply c_2) | apply r_E | apply b_k | apply s_k | apply s_q)
    refine W_ret ?_; (try simp only [Then, Out, Jump, JumpL]); refine ret_mk (by simp (disch := first | decide | (try simp only [zz, hz]) <;> omega | fail) only [go_sem, hz] <;> rfl) ?_; (try simp only [resultA])
    exact ⟨by first | rfl | trivial, kp⟩
theorem same_stmts : ∀ (n : Nat) (ps : List Tr), AllL (wf n 3) ps → SameP ps
  | 0, ps, h => sameSs_c (by have := h.1; omega) (fun p hp => (h.2 p hp).elim)
  | n + 1, ps, h => sameSs_c (by have := h.1; omega) (fun p hp => by
    obtain ⟨k, a, t, nm, es, qs, wh, b, c, rfl, h0, h1, h2, h3, h4, h5⟩ := h.2 p hp
    obtain ⟨_, _, iEs, iQs, _⟩ := same_all n
    exact ⟨k, a, t, nm, es, qs, wh, b, c, rfl, sameTs_c (by have := h0.1; omega) h0.2, iEs _ h1, iQs _ h2, iEs _ h3, same_stmts n _ h4, same_stmts n _ h5⟩)
end Go.Proofs.YtckidlbmoalomaaGreatDoor
