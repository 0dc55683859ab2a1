/- SyntaxJoins: two scripts of statements alone, one behind the other. -/
import Derived.Test.YtckidlbmoalomaaGreatDoorJ27
import Derived.Test.YtckidlbmoalomaaGreatDoorJ30
import Derived.Test.YtckidlbmoalomaaGreatDoorJ32


namespace Go.Proofs.YtckidlbmoalomaaGreatDoor
open Go.RowKit
set_option maxRecDepth 10000
set_option linter.unusedSimpArgs false
set_option linter.unusedVariables false

theorem yl_each_few {α : Type} {r : SM α} (h : Shr r) (x : ByteArray) : Yl (eachS x r []) (fun l => l.length ≤ 200000) := (Yl.each (P := fun _ => True) (fun σ hs => ⟨trivial, Nat.le_trans (h σ) hs⟩) x (by simp) (fun a ha => absurd ha (by simp))).mono fun _ h => h.1
theorem yl_script_few (n : Nat) : Yl (scriptS (knot n)) (fun x => ∃ v p b, x = mkSc v p b ∧ v.length ≤ 200000 ∧ p.length ≤ 200000) :=
  (yl_each_few shr_decl w_var).bind fun v hv => (yl_each_few (shr_proc (shr_knot n)) w_proc).bind fun p hp => Yl.any (fun b => .pure ⟨v, p, b, rfl, hv, hp⟩) (shr_stmts (shr_knot n))
theorem script_few {s : ByteArray} (hs : (scanS s).1.length ≤ 100000) : ∃ v p b, (scriptOf s).1 = mkSc v p b ∧ v.length ≤ 200000 ∧ p.length ≤ 200000 := whole_wf (P := fun x => ∃ v p b, x = mkSc v p b ∧ v.length ≤ 200000 ∧ p.length ≤ 200000) ⟨[], [], [], rfl, by simp, by simp⟩ (yl_script_few 39) _ hs
theorem whole_ok {α : Type} {z : α} {m : SM α} {ts : List Tk × Nat × Int} (h : (wholeS z m ts).2.2 = 0) : (wholeS z m ts).2.1 = 0 := by
  unfold wholeS at h ⊢
  split at h
  · rename_i h1
    exact absurd h h1
  · rename_i h1
    rw [if_neg h1]
    simp only at h ⊢
    split at h
    · rename_i h2
      exact absurd h h2
    · rename_i h2
      rw [if_neg h2]
theorem scan_few (s : ByteArray) : (scanS s).1.length ≤ 100000 := by
  by_cases h : (scanS s).2.2 = 0
  · have := (scanS_last s h).2
    omega
  · rw [scanS_bad s h]
    simp
theorem stmt_one {σ : AW} {D : Nat → Prop} {k a : Int} {t : ByteArray} {nm es qs wh b c : List Tr} {x : Value} (h : Rd σ D (mkS k a t nm es qs wh b c) x) : (cellsL x).all oneB = true := by
  obtain ⟨l, rfl, _, _, rfl, rfl, _, _, rfl, rfl, _, _, rfl, rfl, v1, _, rfl, r1, v2, _, rfl, r2, v3, _, rfl, r3, v4, _, rfl, r4, v5, _, rfl, r5, v6, _, rfl, r6, rfl⟩ := rd_agg.1 h
  simp only [cellsL, List.all_cons, List.all_nil, rd_one r1, rd_one r2, rd_one r3, rd_one r4, rd_one r5, rd_one r6]
  rfl
theorem script_cells {σ : AW} {D : Nat → Prop} {v p b : List Tr} {l : List Value} (h : Rd σ D (mkSc v p b) (.agg ⟨l⟩)) : ∃ x1 c1 x2 c2 x3 c3, l = [.slice x1 v.length c1, .slice x2 p.length c2, .slice x3 b.length c3] ∧ Rd σ D (sl 9 b) (.slice x3 b.length c3) := by
  obtain ⟨l', e, v1, _, rfl, r1, v2, _, rfl, r2, v3, _, rfl, r3, rfl⟩ := rd_agg.1 h
  injection e with e
  injection e with e
  subst e
  obtain ⟨x1, c1, rfl⟩ := rd_len r1
  obtain ⟨x2, c2, rfl⟩ := rd_len r2
  obtain ⟨x3, c3, rfl⟩ := rd_len r3
  exact ⟨x1, c1, x2, c2, x3, c3, rfl, r3⟩
theorem wf_mkS {n : Nat} {x : Tr} (h : wf n 3 x) : ∃ k a t nm es qs wh b c, x = mkS k a t nm es qs wh b c := by
  cases n with
  | zero => exact h.elim
  | succ n =>
    obtain ⟨k, a, t, nm, es, qs, wh, b, c, e, _⟩ := h
    exact ⟨k, a, t, nm, es, qs, wh, b, c, e⟩
theorem Dst.kp {σ σ' : AW} {e n B len : Nat} {v : Value} {cells : List Value} (h : Dst σ e n v B len cells) (k : Kp σ σ') : Dst σ' e n v B len cells := by
  obtain ⟨c, rfl, h1, h2, h3⟩ := h
  exact ⟨c, rfl, h1, Nat.lt_of_lt_of_le h2 k.next, h3.imp (fun h => ⟨h.1, h.2.1, (k.get B h2).trans h.2.2⟩) (fun h => ⟨h.1, (k.get B h2).trans h.2⟩)⟩
set_option maxHeartbeats 6400000 in
theorem joins_c (s t : ByteArray) (hs : s.size ≤ 9223372036854775807) (ht : t.size ≤ 9223372036854775807) (σ : AW) : C Tryz.prog 3 [.string s, .string t] σ fun v σ' => v = .bool true ∧ Kp σ σ' := by
  refine C_enter rfl Tryz.func3 rfl Tryz.ntmps3 Tryz.results3 (Nat.le_of_ble_eq_true rfl) ?_; intro A hz hA; have a0 := hA 0 _ rfl; have a1 := hA 1 _ rfl; clear hA
  by_cases h5 : 5000 < s.size
  · have c1 : decide ((5000 : Int) < (s.size : Int)) = true := by simp; omega
    repeat (first | apply s_R | apply o_n | ((first | apply o_p | (refine' o_g rfl rfl ?_ ?_; rotate_left) | apply w_c); (focus simp (disch := first | decide | (try simp only [zz, hz]) <;> omega | fail) only [go_sem, hz, a0, a1, c1] <;> rfl); with_reducible first | apply o_i | apply g_1 | apply g_2 | apply g_3 | apply g_4 | apply c_1 | apply c_2) | apply r_E | apply b_k | apply s_k | apply s_q)
    refine O_call (by simp (disch := first | decide | (try simp only [zz, hz]) <;> omega | fail) only [go_sem, hz] <;> rfl) ?_
    refine C.mono (syj_c _) ?_
    rintro _ _ ⟨rfl, rfl⟩
    repeat (first | apply s_R | apply o_n | ((first | apply o_p | (refine' o_g rfl rfl ?_ ?_; rotate_left) | apply w_c); (focus simp (disch := first | decide | (try simp only [zz, hz]) <;> omega | fail) only [go_sem, hz] <;> rfl); with_reducible first | apply o_i | apply g_1 | apply g_2 | apply g_3 | apply g_4 | apply c_1 | apply c_2) | apply r_E | apply b_k | apply s_k | apply s_q)
    refine W_ret ?_; (try simp only [Then, Out, Jump, JumpL]); refine ret_mk (by simp (disch := first | decide | (try simp only [zz, hz]) <;> omega | fail) only [go_sem, hz] <;> rfl) ?_; (try simp only [resultA])
    exact ⟨by first | rfl | trivial, Kp.refl _⟩
  have c1 : decide ((5000 : Int) < (s.size : Int)) = false := by simp; omega
  by_cases h6 : 5000 < t.size
  · have c2 : decide ((5000 : Int) < (t.size : Int)) = true := by simp; omega
    repeat (first | apply s_R | apply o_n | ((first | apply o_p | (refine' o_g rfl rfl ?_ ?_; rotate_left) | apply w_c); (focus simp (disch := first | decide | (try simp only [zz, hz]) <;> omega | fail) only [go_sem, hz, a0, a1, c1, c2] <;> rfl); with_reducible first | apply o_i | apply g_1 | apply g_2 | apply g_3 | apply g_4 | apply c_1 | apply c_2) | apply r_E | apply b_k | apply s_k | apply s_q)
    refine O_call (by simp (disch := first | decide | (try simp only [zz, hz]) <;> omega | fail) only [go_sem, hz] <;> rfl) ?_
    refine C.mono (syj_c _) ?_
    rintro _ _ ⟨rfl, rfl⟩
    repeat (first | apply s_R | apply o_n | ((first | apply o_p | (refine' o_g rfl rfl ?_ ?_; rotate_left) | apply w_c); (focus simp (disch := first | decide | (try simp only [zz, hz]) <;> omega | fail) only [go_sem, hz] <;> rfl); with_reducible first | apply o_i | apply g_1 | apply g_2 | apply g_3 | apply g_4 | apply c_1 | apply c_2) | apply r_E | apply b_k | apply s_k | apply s_q)
    refine W_ret ?_; (try simp only [Then, Out, Jump, JumpL]); refine ret_mk (by simp (disch := first | decide | (try simp only [zz, hz]) <;> omega | fail) only [go_sem, hz] <;> rfl) ?_; (try simp only [resultA])
    exact ⟨by first | rfl | trivial, Kp.refl _⟩
  have c2 : decide ((5000 : Int) < (t.size : Int)) = false := by simp; omega
  obtain ⟨sv, sp, sb, se, hsv, hsp⟩ := script_few (scan_few s)
  obtain ⟨tv, tp, tb, te, htv, htp⟩ := script_few (scan_few t)
  repeat (first | apply s_R | apply o_n | ((first | apply o_p | (refine' o_g rfl rfl ?_ ?_; rotate_left) | apply w_c); (focus simp (disch := first | decide | (try simp only [zz, hz]) <;> omega | fail) only [go_sem, hz, a0, a1, c1, c2] <;> rfl); with_reducible first | apply o_i | apply g_1 | apply g_2 | apply g_3 | apply g_4 | apply c_1 | apply c_2) | apply r_E | apply b_k | apply s_k | apply s_q)
  refine O_call (by simp (disch := first | decide | (try simp only [zz, hz]) <;> omega | fail) only [go_sem, hz, a0] <;> rfl) ?_
  refine C.mono (scriptF_c (by omega) σ) ?_
  rintro _ σ1 ⟨_, rfl, ⟨t1, l1, rfl, hl1, ho1⟩, k1⟩
  rw [se] at t1
  obtain ⟨x1, e1, x2, e2, x3, e3, rfl, r1⟩ := script_cells t1
  clear t1
  have nx1 := k1.next
  repeat (first | apply s_R | apply o_n | ((first | apply o_p | (refine' o_g rfl rfl ?_ ?_; rotate_left) | apply w_c); (focus simp (disch := first | decide | (try simp only [zz, hz]) <;> omega | fail) only [go_sem, hz, a0, a1] <;> rfl); with_reducible first | apply o_i | apply g_1 | apply g_2 | apply g_3 | apply g_4 | apply c_1 | apply c_2) | apply r_E | apply b_k | apply s_k | apply s_q)
  refine O_call (by simp (disch := first | decide | (try simp only [zz, hz]) <;> omega | fail) only [go_sem, hz, a1] <;> rfl) ?_
  have kq1 := fun B1 B2 => (k1.push B1).set nx1 B2
  refine C.mono (scriptF_c (by omega) _) ?_
  rintro _ σ2 ⟨_, rfl, ⟨t2, l2, rfl, hl2, ho2⟩, k2⟩
  rw [te] at t2
  obtain ⟨y1, f1, y2, f2, y3, f3, rfl, r2⟩ := script_cells t2
  clear t2
  have nx2 := k2.next
  simp only [push_next, set_next] at nx2
  have gA2 := (k2.get σ1.next (by first | omega | (simp only [push_next, set_next]; first | done | omega))).trans set_eq
  replace r1 := (r1.ks (((Ks.refl σ1).push _).set (.inl (Nat.le_refl _)) _)).ks k2.ks
  have kq2 := (kq1 _ _).trans k2
  have es : (scriptOf s).2.2 = 0 → sv = [] → sp = [] → scriptOf s = (mkSc [] [] sb, 0, 0) := fun h h1 h2 => by
    subst h1
    subst h2
    exact Prod.ext se (Prod.ext (whole_ok h) h)
  have et : (scriptOf t).2.2 = 0 → tv = [] → tp = [] → scriptOf t = (mkSc [] [] tb, 0, 0) := fun h h1 h2 => by
    subst h1
    subst h2
    exact Prod.ext te (Prod.ext (whole_ok h) h)
  have hfin : (sv.length : Int) + sp.length = ((sv.length + sp.length : Nat) : Int) := by omega
  have d1 : fastB .add (.int .i64 (sv.length : Int)) (.int .i64 (sp.length : Int)) = some (.int .i64 ((sv.length : Int) + sp.length)) := bin_addI (by omega) (by omega)
  have d2 : fastB .add (.int .i64 ((sv.length : Int) + sp.length)) (.int .i64 (tv.length : Int)) = some (.int .i64 ((sv.length : Int) + sp.length + tv.length)) := bin_addI (by omega) (by omega)
  have d3 : fastB .add (.int .i64 ((sv.length : Int) + sp.length + tv.length)) (.int .i64 (tp.length : Int)) = some (.int .i64 ((sv.length : Int) + sp.length + tv.length + tp.length)) := bin_addI (by omega) (by omega)
  by_cases he : (scriptOf s).2.2 = 0
  case neg =>
    have q1 : ((scriptOf s).2.2 != 0) = true := by simp [he]
    repeat (first | apply s_R | apply o_n | ((first | apply o_p | (refine' o_g rfl rfl ?_ ?_; rotate_left) | apply w_c); (focus simp (disch := first | decide | (try simp only [zz, hz]) <;> omega | fail) only [go_sem, hz, a0, a1, q1] <;> rfl); with_reducible first | apply o_i | apply g_1 | apply g_2 | apply g_3 | apply g_4 | apply c_1 | apply c_2) | apply r_E | apply b_k | apply s_k | apply s_q)
    refine O_call (by simp (disch := first | decide | (try simp only [zz, hz]) <;> omega | fail) only [go_sem, hz] <;> rfl) ?_
    refine C.mono (syj_c _) ?_
    rintro _ _ ⟨rfl, rfl⟩
    repeat (first | apply s_R | apply o_n | ((first | apply o_p | (refine' o_g rfl rfl ?_ ?_; rotate_left) | apply w_c); (focus simp (disch := first | decide | (try simp only [zz, hz]) <;> omega | fail) only [go_sem, hz] <;> rfl); with_reducible first | apply o_i | apply g_1 | apply g_2 | apply g_3 | apply g_4 | apply c_1 | apply c_2) | apply r_E | apply b_k | apply s_k | apply s_q)
    refine W_ret ?_; (try simp only [Then, Out, Jump, JumpL]); refine ret_mk (by simp (disch := first | decide | (try simp only [zz, hz]) <;> omega | fail) only [go_sem, hz] <;> rfl) ?_; (try simp only [resultA])
    exact ⟨by first | rfl | trivial, (kq2.push _).set (by omega) _⟩
  have q1 : ((scriptOf s).2.2 != 0) = false := by simp [he]
  by_cases hf : (scriptOf t).2.2 = 0
  case neg =>
    have q2 : ((scriptOf t).2.2 != 0) = true := by simp [hf]
    repeat (first | apply s_R | apply o_n | ((first | apply o_p | (refine' o_g rfl rfl ?_ ?_; rotate_left) | apply w_c); (focus simp (disch := first | decide | (try simp only [zz, hz]) <;> omega | fail) only [go_sem, hz, a0, a1, q1, q2] <;> rfl); with_reducible first | apply o_i | apply g_1 | apply g_2 | apply g_3 | apply g_4 | apply c_1 | apply c_2) | apply r_E | apply b_k | apply s_k | apply s_q)
    refine O_call (by simp (disch := first | decide | (try simp only [zz, hz]) <;> omega | fail) only [go_sem, hz] <;> rfl) ?_
    refine C.mono (syj_c _) ?_
    rintro _ _ ⟨rfl, rfl⟩
    repeat (first | apply s_R | apply o_n | ((first | apply o_p | (refine' o_g rfl rfl ?_ ?_; rotate_left) | apply w_c); (focus simp (disch := first | decide | (try simp only [zz, hz]) <;> omega | fail) only [go_sem, hz] <;> rfl); with_reducible first | apply o_i | apply g_1 | apply g_2 | apply g_3 | apply g_4 | apply c_1 | apply c_2) | apply r_E | apply b_k | apply s_k | apply s_q)
    refine W_ret ?_; (try simp only [Then, Out, Jump, JumpL]); refine ret_mk (by simp (disch := first | decide | (try simp only [zz, hz]) <;> omega | fail) only [go_sem, hz] <;> rfl) ?_; (try simp only [resultA])
    exact ⟨by first | rfl | trivial, (kq2.push _).set (by omega) _⟩
  have q2 : ((scriptOf t).2.2 != 0) = false := by simp [hf]
  by_cases hn : (0 : Int) < (sv.length : Int) + sp.length + tv.length + tp.length
  case pos =>
    have q3 : decide ((0 : Int) < (sv.length : Int) + sp.length + tv.length + tp.length) = true := by simp [hn]
    repeat (first | apply s_R | apply o_n | ((first | apply o_p | (refine' o_g rfl rfl ?_ ?_; rotate_left) | apply w_c); (focus simp (disch := first | decide | (try simp only [zz, hz]) <;> omega | fail) only [go_sem, hz, a0, a1, q1, q2, gA2, d1, d2, d3, q3] <;> rfl); with_reducible first | apply o_i | apply g_1 | apply g_2 | apply g_3 | apply g_4 | apply c_1 | apply c_2) | apply r_E | apply b_k | apply s_k | apply s_q)
    refine O_call (by simp (disch := first | decide | (try simp only [zz, hz]) <;> omega | fail) only [go_sem, hz] <;> rfl) ?_
    refine C.mono (syj_c _) ?_
    rintro _ _ ⟨rfl, rfl⟩
    repeat (first | apply s_R | apply o_n | ((first | apply o_p | (refine' o_g rfl rfl ?_ ?_; rotate_left) | apply w_c); (focus simp (disch := first | decide | (try simp only [zz, hz]) <;> omega | fail) only [go_sem, hz] <;> rfl); with_reducible first | apply o_i | apply g_1 | apply g_2 | apply g_3 | apply g_4 | apply c_1 | apply c_2) | apply r_E | apply b_k | apply s_k | apply s_q)
    refine W_ret ?_; (try simp only [Then, Out, Jump, JumpL]); refine ret_mk (by simp (disch := first | decide | (try simp only [zz, hz]) <;> omega | fail) only [go_sem, hz] <;> rfl) ?_; (try simp only [resultA])
    exact ⟨by first | rfl | trivial, (kq2.push _).set (by omega) _⟩
  have q3 : decide ((0 : Int) < (sv.length : Int) + sp.length + tv.length + tp.length) = false := by simp [hn]
  replace es := es he (List.eq_nil_of_length_eq_zero (by omega)) (List.eq_nil_of_length_eq_zero (by omega))
  replace et := et hf (List.eq_nil_of_length_eq_zero (by omega)) (List.eq_nil_of_length_eq_zero (by omega))
  obtain ⟨s2, hs2⟩ : ∃ s2 : ByteArray, s2 = s ++ ⟨#[10]⟩ ++ t := ⟨_, rfl⟩
  have z1 : s.size + (#[10] : Array UInt8).size ≤ 9223372036854775807 := by show s.size + 1 ≤ _; omega
  have z2 : s.size + (#[10] : Array UInt8).size + t.size ≤ 9223372036854775807 := by show s.size + 1 + t.size ≤ _; omega
  have z3 : s2.size ≤ 10001 := by rw [hs2, ByteArray.size_append, ByteArray.size_append]; show s.size + 1 + t.size ≤ _; omega
  repeat (first | apply s_R | apply o_n | ((first | apply o_p | (refine' o_g rfl rfl ?_ ?_; rotate_left) | apply w_c); (focus simp (disch := first | decide | (try simp only [zz, hz]) <;> omega | fail) only [go_sem, hz, a0, a1, q1, q2, gA2, d1, d2, d3, q3, z1, z2] <;> rfl); with_reducible first | apply o_i | apply g_1 | apply g_2 | apply g_3 | apply g_4 | apply c_1 | apply c_2) | apply r_E | apply b_k | apply s_k | apply s_q)
  rw [← hs2]
  have htwo := script_two (s := s) (t := t) (s2 := s2) (by omega) (by omega) (by omega) (by rw [hs2]; simp [ByteArray.data_append]) es et
  obtain ⟨cv, cp, cb, ce, _, _⟩ := script_few (scan_few s2)
  have kq3 : ∀ B1 B2, Kp σ2 ((σ2.push B1).set σ2.next B2) := fun _ _ => ((Kp.refl σ2).push _).set (Nat.le_refl _) _
  refine O_call (by simp (disch := first | decide | (try simp only [zz, hz]) <;> omega | fail) only [go_sem, hz, a0] <;> rfl) ?_
  refine C.mono (scriptF_c (by omega) _) ?_
  rintro _ σ3 ⟨_, rfl, ⟨t3, l3, rfl, hl3, ho3⟩, k3⟩
  rw [ce] at t3
  obtain ⟨w1, g1, w2, g2, w3, g3, rfl, r3⟩ := script_cells t3
  clear t3
  have nx3 := k3.next
  simp only [push_next, set_next] at nx3
  have gA3 := (k3.get σ1.next (by first | omega | (simp only [push_next, set_next]; first | done | omega))).trans (((kq3 _ _).get _ (by omega)).trans gA2)
  have gB3 := (k3.get σ2.next (by first | omega | (simp only [push_next, set_next]; first | done | omega))).trans set_eq
  replace r1 := (r1.ks (kq3 _ _).ks).ks k3.ks
  replace r2 := (r2.ks (kq3 _ _).ks).ks k3.ks
  have kq4 := (kq2.trans (kq3 _ _)).trans k3
  rcases htwo with h8 | ⟨lb', hc, hmv⟩
  · have q5 : ((scriptOf s2).2.2 == 8) = true := by simp [h8]
    repeat (first | apply s_R | apply o_n | ((first | apply o_p | (refine' o_g rfl rfl ?_ ?_; rotate_left) | apply w_c); (focus simp (disch := first | decide | (try simp only [zz, hz]) <;> omega | fail) only [go_sem, hz, a0, a1, q5] <;> rfl); with_reducible first | apply o_i | apply g_1 | apply g_2 | apply g_3 | apply g_4 | apply c_1 | apply c_2) | apply r_E | apply b_k | apply s_k | apply s_q)
    refine O_call (by simp (disch := first | decide | (try simp only [zz, hz]) <;> omega | fail) only [go_sem, hz] <;> rfl) ?_
    refine C.mono (syj_c _) ?_
    rintro _ _ ⟨rfl, rfl⟩
    repeat (first | apply s_R | apply o_n | ((first | apply o_p | (refine' o_g rfl rfl ?_ ?_; rotate_left) | apply w_c); (focus simp (disch := first | decide | (try simp only [zz, hz]) <;> omega | fail) only [go_sem, hz] <;> rfl); with_reducible first | apply o_i | apply g_1 | apply g_2 | apply g_3 | apply g_4 | apply c_1 | apply c_2) | apply r_E | apply b_k | apply s_k | apply s_q)
    refine W_ret ?_; (try simp only [Then, Out, Jump, JumpL]); refine ret_mk (by simp (disch := first | decide | (try simp only [zz, hz]) <;> omega | fail) only [go_sem, hz] <;> rfl) ?_; (try simp only [resultA])
    exact ⟨by first | rfl | trivial, (kq4.push _).set (by have := kq4.next; omega) _⟩
  obtain ⟨_, wc⟩ := script_pl (by omega) (scan_few s2) hc
  obtain ⟨_, ws⟩ := script_pl (by omega) (scan_few s) es
  obtain ⟨pt, wt⟩ := script_pl (by omega) (scan_few t) et
  have e8 : (scriptOf s2).2.2 = 0 := by rw [hc]
  have hcb : cb = sb ++ lb' := by
    rw [hc] at ce
    exact (mkSc_inj ce).2.2.symm
  subst hcb
  have q5 : ((scriptOf s2).2.2 == 8) = false := by simp [e8]
  have q6 : ((scriptOf s2).2.2 == 0) = true := by simp [e8]
  repeat (first | apply s_R | apply o_n | ((first | apply o_p | (refine' o_g rfl rfl ?_ ?_; rotate_left) | apply w_c); (focus simp (disch := first | decide | (try simp only [zz, hz]) <;> omega | fail) only [go_sem, hz, a0, a1, q5] <;> rfl); with_reducible first | apply o_i | apply g_1 | apply g_2 | apply g_3 | apply g_4 | apply c_1 | apply c_2) | apply r_E | apply b_k | apply s_k | apply s_q)
  obtain ⟨τ, hτ⟩ : ∃ τ, τ = (σ3.push ⟨1, 27, 0, [.slice none 0 0, .slice none 0 0, .slice none 0 0]⟩).set σ3.next ⟨1, 27, 0, [.slice w1 cv.length g1, .slice w2 cp.length g2, .slice w3 (sb ++ lb').length g3]⟩ := ⟨_, rfl⟩
  have kt : Kp σ3 τ := by rw [hτ]; exact ((Kp.refl σ3).push _).set (Nat.le_refl _) _
  have nxt : τ.next = σ3.next + 1 := by rw [hτ]; rfl
  have gC : τ.get σ3.next = ⟨1, 27, 0, [.slice w1 cv.length g1, .slice w2 cp.length g2, .slice w3 (sb ++ lb').length g3]⟩ := by rw [hτ]; exact set_eq
  have gA := (kt.get σ1.next (by omega)).trans gA3
  have gB := (kt.get σ2.next (by omega)).trans gB3
  have gAp : ∀ B, (τ.push B).get σ1.next = _ := fun B => (push_ne (by omega)).trans gA
  have gBp : ∀ B, (τ.push B).get σ2.next = _ := fun B => (push_ne (by omega)).trans gB
  have gCp : ∀ B, (τ.push B).get σ3.next = _ := fun B => (push_ne (by omega)).trans gC
  rw [← hτ]
  clear hτ
  have kq5 := kq4.trans kt
  have lo : ∀ {D : Nat → Prop} {p v : Value}, Rd τ D p v → Rd τ (fun k => k < τ.next) p v := fun h => h.keep (fun _ _ _ _ => rfl) (Nat.le_refl _) (fun _ _ h => h)
  replace r1 := lo (r1.ks kt.ks)
  replace r2 := lo (r2.ks kt.ks)
  replace r3 := lo (r3.ks kt.ks)
  clear lo
  obtain ⟨ns, ws⟩ := wfL_get ws
  obtain ⟨nt, wt⟩ := wfL_get wt
  obtain ⟨nc, wc⟩ := wfL_get wc
  have lens := ws.1
  have lenc := wc.1
  rw [List.length_append] at lenc
  have bs0 : buildSliceA Tryz.prog τ 25 0 [] = some (.slice (some ⟨τ.next, 0, none⟩) 0 0, τ.push ⟨1, 55, 1, []⟩) := bsl us_25 sz_55 zr_55 rfl (by decide) (vs := []) (by decide) (fun v hv => absurd hv (by simp))
  have kp0 : Kp τ (τ.push ⟨1, 55, 1, []⟩) := (Kp.refl τ).push _
  have hd0 : Dst (τ.push ⟨1, 55, 1, []⟩) 55 9 (.slice (some ⟨τ.next, 0, none⟩) 0 0) τ.next 0 [] := ⟨0, rfl, by simp, Nat.lt_succ_self _, .inl ⟨rfl, rfl, push_eq⟩⟩
  obtain ⟨vs1, src1, rl1, hx1, _, hl1'⟩ := src_sl us_25 (r1.ks kp0.ks) (fun p hp x h => by
    obtain ⟨_, _, _, _, _, _, _, _, _, rfl⟩ := wf_mkS (ws.2 p hp)
    exact stmt_one h)
  obtain ⟨v4, B4, σ4, ap1, hd4, hB4, nx4, kp4⟩ := dst_app us_25 io_55 rfl (by decide) hd0 src1 hl1' (by omega) (by omega)
  simp only [push_next] at hB4 nx4 kp4
  rw [Nat.zero_add] at hd4
  have hB4' : τ.next ≤ B4 := by omega
  have hlt4 : B4 < σ4.next := by obtain ⟨_, _, _, h, _⟩ := hd4; exact h
  have kq6 : Kp τ σ4 := ⟨by omega, fun j hj => (kp4 j (by omega) (by omega)).trans (push_ne (by omega))⟩
  obtain ⟨c4, e4, _⟩ := id hd4
  subst e4
  have gA4 := (kq6.get _ (by omega)).trans gA
  have gB4 := (kq6.get _ (by omega)).trans gB
  have gC4 := (kq6.get _ (by omega)).trans gC
  have hadd : fastB .add (.int .i64 (s.size : Int)) (.int .i64 1) = some (.int .i64 ((s.size + 1 : Nat) : Int)) := by rw [bin_addI (by omega) (by omega)]; rfl
  refine W_regDE mixed (by kernel_rfl) (by kernel_rfl) ?_
  repeat (first | (apply v_x; (focus simp (disch := first | decide | (try simp only [zz, hz]) <;> omega | fail) only [go_sem, hz, a0, q6, gA, gB, gC, gAp, gBp, gCp, bs0, ap1, gA4, gB4, gC4, hadd] <;> rfl); first | refine vX_n ?_ | refine vX_l ?_ | refine vX_e ?_) | (refine' V_gX rfl rfl ?_ ?_; rotate_left; (focus simp (disch := first | decide | (try simp only [zz, hz]) <;> omega | fail) only [go_sem, hz, a0, q6, gA, gB, gC, gAp, gBp, gCp, bs0, ap1, gA4, gB4, gC4, hadd] <;> rfl); first | with_reducible apply g_1 | ((with_reducible first | apply g_2 | apply g_3 | apply g_4); first | refine vX_n ?_ | refine vX_l ?_ | refine vX_e ?_)))
  refine V_call (by simp (disch := first | decide | (try simp only [zz, hz]) <;> omega | fail) only [go_sem, hz, q6] <;> rfl) ?_
  have r24 : Rd σ4 (fun k => k < τ.next) (sl 9 tb) (.slice y3 tb.length f3) := r2.ks kq6.ks
  refine C.mono (moved_c (Int.natCast_nonneg _) (by omega) (B := (t.size : Int)) (by omega) 40 nt tb lb' hmv pt wt σ4 _ _ r24) ?_
  rintro v5 σ5 ⟨t5, k5⟩
  obtain ⟨p5, q5', w5, rfl⟩ := rd_shape t5
  have nx5 := k5.next
  have kq7 := kq6.trans k5
  have gA5 := (kq7.get _ (by omega)).trans gA
  have gB5 := (kq7.get _ (by omega)).trans gB
  have gC5 := (kq7.get _ (by omega)).trans gC
  obtain ⟨vs2, src2, rl2, hx2, _, hl2'⟩ := src_sl us_25 t5 (fun p hp x h => by
    obtain ⟨_, _, _, _, _, _, _, _, _, rfl⟩ := wf_mkS (wc.2 p (List.mem_append_right _ hp))
    exact stmt_one h)
  obtain ⟨v6, B6, σ6, ap2, hd6, hB6, nx6, kp6⟩ := dst_app us_25 io_55 rfl (by decide) (hd4.kp k5) src2 hl2' (by omega) (by omega)
  have kq8 : Kp τ σ6 := ⟨by omega, fun j hj => (kp6 j (by omega) (by omega)).trans (kq7.get j hj)⟩
  obtain ⟨c6, e6, _⟩ := id hd6
  subst e6
  have gA6 := (kq8.get _ (by omega)).trans gA
  have gB6 := (kq8.get _ (by omega)).trans gB
  have gC6 := (kq8.get _ (by omega)).trans gC
  have rl1' : RdL σ6 TT sb vs1 := rl1.keep (fun j hj hlt _ => by rw [kq8.get j hj, push_ne (by omega)]) (by rw [push_next]; omega) (fun _ _ _ => trivial)
  have rl2' : RdL σ6 TT lb' vs2 := rl2.keep (fun j hj hlt _ => kp6 j hlt (by omega)) nx6 (fun _ _ _ => trivial)
  have lv1 := rl1.length
  have lv2 := rl2.length
  have rv6 := Dst.rd (D := TT) hd6 (by decide) (vs := vs1 ++ vs2) (ps := sb ++ lb') (by simp) (by rw [List.length_append]; omega) (rl1'.append rl2') (fun u hu => (List.mem_append.1 hu).elim (hx1 u) (hx2 u)) trivial
  have r36 : Rd σ6 TT (sl 9 (sb ++ lb')) (.slice w3 (sb ++ lb').length g3) := r3.keep (fun j hj _ _ => kq8.get j hj) kq8.next (fun _ _ _ => trivial)
  repeat (first | (apply v_x; (focus simp (disch := first | decide | (try simp only [zz, hz]) <;> omega | fail) only [go_sem, hz, q6, ap2] <;> rfl); first | refine vX_n ?_ | refine vX_l ?_ | refine vX_e ?_) | (refine' V_gX rfl rfl ?_ ?_; rotate_left; (focus simp (disch := first | decide | (try simp only [zz, hz]) <;> omega | fail) only [go_sem, hz, q6, ap2] <;> rfl); first | with_reducible apply g_1 | ((with_reducible first | apply g_2 | apply g_3 | apply g_4); first | refine vX_n ?_ | refine vX_l ?_ | refine vX_e ?_)))
  refine V_call (by simp (disch := first | decide | (try simp only [zz, hz]) <;> omega | fail) only [go_sem, hz, q6] <;> rfl) ?_
  refine C.mono (same_stmts nc _ wc σ6 _ _ r36 rv6) ?_
  rintro _ σ7 ⟨rfl, k7⟩
  repeat (first | (apply v_x; (focus simp (disch := first | decide | (try simp only [zz, hz]) <;> omega | fail) only [go_sem, hz, q6] <;> rfl); first | refine vX_n ?_ | refine vX_l ?_ | refine vX_e ?_) | (refine' V_gX rfl rfl ?_ ?_; rotate_left; (focus simp (disch := first | decide | (try simp only [zz, hz]) <;> omega | fail) only [go_sem, hz, q6] <;> rfl); first | with_reducible apply g_1 | ((with_reducible first | apply g_2 | apply g_3 | apply g_4); first | refine vX_n ?_ | refine vX_l ?_ | refine vX_e ?_)))
  refine V_call (by simp (disch := first | decide | (try simp only [zz, hz]) <;> omega | fail) only [go_sem, hz, q6] <;> rfl) ?_
  refine C.mono (syj_c _) ?_
  rintro _ _ ⟨rfl, rfl⟩
  repeat (first | (apply v_x; (focus simp (disch := first | decide | (try simp only [zz, hz]) <;> omega | fail) only [go_sem, hz, q6] <;> rfl); first | refine vX_n ?_ | refine vX_l ?_ | refine vX_e ?_) | (refine' V_gX rfl rfl ?_ ?_; rotate_left; (focus simp (disch := first | decide | (try simp only [zz, hz]) <;> omega | fail) only [go_sem, hz, q6] <;> rfl); first | with_reducible apply g_1 | ((with_reducible first | apply g_2 | apply g_3 | apply g_4); first | refine vX_n ?_ | refine vX_l ?_ | refine vX_e ?_)))
  refine V_nil ?_; refine And.intro (owes_by (L := [(4, 0), (4, 6), (4, 9), (4, 15), (4, 16), (7, 0), (7, 6), (10, 0), (10, 6), (10, 9), (12, 0), (12, 6), (12, 9)]) ?_ ?_) ?_; rotate_left 2; (try simp only [Then, Out, JumpL]); rotate_right 2; focus (kernel_rfl)
  · (repeat (first | refine owe_cons (Owed_op rfl rfl rfl rfl rfl (by simp (disch := first | decide | (try simp only [zz, hz]) <;> omega | fail) only [go_sem, hz, a0, q6, gA, gB, gC, gAp, gBp, gCp, gA4, gB4, gC4, gA5, gB5, gC5, gA6, gB6, gC6] <;> rfl)) ?_ | refine owe_cons (Owed_opG rfl rfl rfl rfl rfl (by simp (disch := first | decide | (try simp only [zz, hz]) <;> omega | fail) only [go_sem, hz, a0, q6, gA, gB, gC, gAp, gBp, gCp, gA4, gB4, gC4, gA5, gB5, gC5, gA6, gB6, gC6] <;> rfl) rfl (by simp (disch := first | decide | (try simp only [zz, hz]) <;> omega | fail) only [go_sem, hz, a0, q6, gA, gB, gC, gAp, gBp, gCp, gA4, gB4, gC4, gA5, gB5, gC5, gA6, gB6, gC6] <;> rfl)) ?_ | refine owe_cons (Owed_skG rfl rfl rfl rfl rfl (by simp (disch := first | decide | (try simp only [zz, hz]) <;> omega | fail) only [go_sem, hz, a0, q6, gA, gB, gC, gAp, gBp, gCp, gA4, gB4, gC4, gA5, gB5, gC5, gA6, gB6, gC6] <;> rfl)) ?_)); exact owe_nil
  repeat (first | apply s_R | apply o_n | ((first | apply o_p | (refine' o_g rfl rfl ?_ ?_; rotate_left) | apply w_c); (focus simp (disch := first | decide | (try simp only [zz, hz]) <;> omega | fail) only [go_sem, hz] <;> rfl); with_reducible first | apply o_i | apply g_1 | apply g_2 | apply g_3 | apply g_4 | apply c_1 | apply c_2) | apply r_E | apply b_k | apply s_k | apply s_q)
  refine W_ret ?_; (try simp only [Then, Out, Jump, JumpL]); refine ret_mk (by simp (disch := first | decide | (try simp only [zz, hz]) <;> omega | fail) only [go_sem, hz] <;> rfl) ?_; (try simp only [resultA])
  exact ⟨by first | rfl | trivial, (kq5.trans kq8).trans k7⟩
theorem calls_of_c {P : Program} {g : Nat} {xs : List Value} {v : Value} (hx : xs.all flatB = true) (hv : flatB v = true) (h : C P g xs AW0 fun u σ' => u = v ∧ Kp AW0 σ') (w : World) (hw : GlobW w) : Calls P g xs.toArray w fun e w' => e = .returned v ∧ Below w.heap.size w w' := by
  obtain ⟨u, σ', ⟨_, hc⟩, rfl, _⟩ := h
  have hfl : ∀ x ∈ xs, Fl x := fun x hx' => flatB_fl (List.all_eq_true.1 hx x hx')
  have := hc (fun k => (k, 0)) w (rel_none _ w hw) (fun x hx' => (hfl x hx').sc _)
  rw [fl_map hfl] at this
  refine Calls.mono this ?_
  rintro e w' ⟨ρ', rfl, hst, _⟩
  exact ⟨by rw [flatB_fl hv ρ'], hst.os, hst.tape, hst.output, hst.size, fun b hb => hst.same b hb (fun k hk => by
    have e : ∀ {α : Type} (d : α) (k : Nat), getN d [] k = d := fun d k => by cases k <;> rfl
    have : (AW0.get k).kind = 0 := by simp [AW.get, AW0, e, noBlk]
    exact absurd this hk.1)⟩
theorem syntaxJoins_walk (s t : ByteArray) (hs : s.size ≤ maxLen) (ht : t.size ≤ maxLen) (w : World) (hw : HasMax w) : Calls Tryz.prog 3 #[.string s, .string t] w fun e w' => e = .returned (.bool true) ∧ Below w.heap.size w w' :=
  calls_of_c (xs := [.string s, .string t]) rfl rfl (joins_c s t (Nat.le_trans hs (by decide)) (Nat.le_trans ht (by decide)) AW0) w (fun _ => ⟨by
    obtain ⟨m, hm⟩ := hw
    apply Classical.byContradiction
    intro hn
    have : w.heap[0]? = none := Array.getElem?_eq_none (by omega)
    simp [World.cell?, this] at hm, hw⟩)
end Go.Proofs.YtckidlbmoalomaaGreatDoor
