/- The document's comparison of trees: two that read as the same tree are the same. -/
import Derived.Test.YtckidlbmoalomaaGreatDoorJ20
import Derived.Test.YtckidlbmoalomaaGreatDoorJ06


namespace Go.Proofs.YtckidlbmoalomaaGreatDoor
open Go.RowKit
set_option maxRecDepth 10000
set_option linter.unusedSimpArgs false
set_option linter.unusedVariables false

theorem Rd.kp {σ σ' : AW} {D : Nat → Prop} {v p : Value} (h : Rd σ D p v) (k : Kp σ σ') : Rd σ' D p v := h.ks k.ks
theorem flat_at {n : Nat} : ∀ {l : List Value} {i : Nat}, (∀ x ∈ l, (cellsL x).length = n) → (h : i < l.length) → ((l.flatMap cellsL).drop (i * n)).take n = cellsL l[i]
  | x :: l, 0, hl, _ => by
    have h1 := hl x (List.mem_cons_self ..)
    rw [List.flatMap_cons, Nat.zero_mul, List.drop_zero, List.take_left' h1]
    rfl
  | x :: l, i + 1, hl, h => by
    have h1 := hl x (List.mem_cons_self ..)
    rw [List.flatMap_cons, List.drop_append, h1, List.drop_of_length_le (by rw [h1, Nat.add_mul]; omega), List.nil_append, show (i + 1) * n - n = i * n by rw [Nat.add_mul]; omega]
    exact flat_at (fun y hy => hl y (List.mem_cons_of_mem _ hy)) (by simpa using h)
theorem RdL.at {σ : AW} {D : Nat → Prop} : ∀ {ps l : List Value} {i : Nat}, RdL σ D ps l → (h : i < ps.length) → (h' : i < l.length) → Rd σ D ps[i] l[i]
  | _ :: _, _, 0, ⟨v, l', rfl, h2, h3⟩, _, _ => h2
  | _ :: _, _, i + 1, ⟨v, l', rfl, h2, h3⟩, h, h' => RdL.at (i := i) h3 (by simpa using h) (by simpa using h')
theorem rd_len {σ : AW} {D : Nat → Prop} {n : Nat} {ps : List Value} {v : Value} (h : Rd σ D (sl n ps) v) : ∃ a c, v = .slice a ps.length c := by
  obtain ⟨m, h1, hs⟩ := rd_sl.1 h
  have hl := h1.length
  rcases hs with ⟨rfl, c, rfl⟩ | ⟨b, o, c, k, e, z, cs, rfl, _⟩
  · exact ⟨none, c, by rw [← hl]; rfl⟩
  · exact ⟨_, c, by rw [hl]⟩
theorem rd_el {P : Program} {σ : AW} {D : Nat → Prop} {n e : Nat} {ps : List Value} {v : Value} (h : Rd σ D (sl n ps) v) (hsz : szOf P e = some n) {i : Nat} (hi : i < ps.length) :
    ∃ b o c cs x, v = .slice (some ⟨b, o, none⟩) ps.length c ∧ (∀ τ, Kp σ τ → ∀ q, rowOf τ ⟨b, q, none⟩ = some cs) ∧ elemAtA P e ⟨b, o, none⟩ ps.length (i : Int) = some (.pointer (some ⟨b, o + i * n, none⟩)) ∧ (cs.drop (o + i * n)).take n = cellsL x ∧ Rd σ D ps[i] x ∧ (cellsL x).length = n := by
  obtain ⟨l, h1, hs⟩ := rd_sl.1 h
  have hl := h1.length
  rcases hs with ⟨rfl, _⟩ | ⟨b, o, c, k, e', z, cs, rfl, hb, hk, hz, hlt, hD, hcs, hx⟩
  · simp at hl; omega
  · have hi' : i < l.length := by omega
    refine ⟨b, o, c, cs, l[i], by rw [hl], fun τ kp q => ?_, by rw [elem_i hsz hi, add_none], ?_, h1.at hi hi', hx _ (List.getElem_mem hi')⟩
    · rcases hk with rfl | rfl
      · exact row_1 ((kp.get b hlt).trans hb)
      · exact row_2 ((kp.get b hlt).trans hb)
    · have := flat_at hx hi'
      rw [← hcs, List.drop_take, List.drop_drop, List.take_take] at this
      have hle : (i + 1) * n ≤ l.length * n := Nat.mul_le_mul_right n hi'
      rw [Nat.add_mul, Nat.one_mul] at hle
      rw [Nat.min_eq_left (by omega)] at this
      exact this
def TT : Nat → Prop := fun _ => True
def SameC (g n : Nat) (ps : List Tr) : Prop := ∀ σ v v', Rd σ TT (sl n ps) v → Rd σ TT (sl n ps) v' → C Tryz.prog g [v, v'] σ fun r σ' => r = .bool true ∧ Kp σ σ'
theorem sameE_c {k m : Int} {s t : ByteArray} {kids qs : List Tr} (hk : SameC 14 6 kids) (hq : SameC 15 10 qs) (σ : AW) (v v' : Value) (h : Rd σ TT (mkE k m s t kids qs) v) (h' : Rd σ TT (mkE k m s t kids qs) v') : C Tryz.prog 30 [v, v'] σ fun r σ' => r = .bool true ∧ Kp σ σ' := by
  obtain ⟨_, rfl, _, _, rfl, rfl, _, _, rfl, rfl, _, _, rfl, rfl, _, _, rfl, rfl, vk, _, rfl, h1, vq, _, rfl, h2, rfl⟩ := rd_agg.1 h
  obtain ⟨_, rfl, _, _, rfl, rfl, _, _, rfl, rfl, _, _, rfl, rfl, _, _, rfl, rfl, uk, _, rfl, j1, uq, _, rfl, j2, rfl⟩ := rd_agg.1 h'
  refine C_enter rfl Tryz.func30 rfl Tryz.ntmps30 Tryz.results30 (Nat.le_of_ble_eq_true rfl) ?_; intro A hz hA; have a0 := hA 0 _ rfl; have a1 := hA 1 _ rfl; clear hA
  have q1 : (k == k) = true := by simp
  have q2 : (m == m) = true := by simp
  repeat (first | apply s_R | apply o_n | ((first | apply o_p | (refine' o_g rfl rfl ?_ ?_; rotate_left) | apply w_c); (focus simp (disch := first | decide | (try simp only [zz, hz]) <;> omega | fail) only [go_sem, hz, a0, a1, q1, q2] <;> rfl); with_reducible first | apply o_i | apply g_1 | apply g_2 | apply g_3 | apply g_4 | apply c_1 | apply c_2) | apply r_E | apply b_k | apply s_k | apply s_q)
  refine O_call (by simp (disch := first | decide | (try simp only [zz, hz]) <;> omega | fail) only [go_sem, hz, a0, a1] <;> rfl) ?_
  have kp0 := (Kp.refl σ).push ⟨1, 37, 0, [.int .i64 k, .int .i64 m, .string s, .string t, vk, vq]⟩ |>.push ⟨1, 37, 0, [.int .i64 k, .int .i64 m, .string s, .string t, uk, uq]⟩
  refine C.mono (hk _ _ _ (h1.kp kp0) (j1.kp kp0)) ?_
  rintro _ σ1 ⟨rfl, k1⟩
  have nx1 := k1.next
  simp only [push_next] at nx1
  have gA : σ1.get σ.next = ⟨1, 37, 0, [.int .i64 k, .int .i64 m, .string s, .string t, vk, vq]⟩ := (k1.get _ (by first | omega | (simp only [push_next, set_next]; first | done | omega))).trans (by simp (disch := first | decide | (try simp only [zz, hz]) <;> omega | fail) only [go_sem, hz] <;> rfl)
  have gB : σ1.get (σ.next + 1) = ⟨1, 37, 0, [.int .i64 k, .int .i64 m, .string s, .string t, uk, uq]⟩ := (k1.get _ (by first | omega | (simp only [push_next, set_next]; first | done | omega))).trans (by simp (disch := first | decide | (try simp only [zz, hz]) <;> omega | fail) only [go_sem, hz] <;> rfl)
  repeat (first | apply s_R | apply o_n | ((first | apply o_p | (refine' o_g rfl rfl ?_ ?_; rotate_left) | apply w_c); (focus simp (disch := first | decide | (try simp only [zz, hz]) <;> omega | fail) only [go_sem, hz, a0, a1, gA, gB] <;> rfl); with_reducible first | apply o_i | apply g_1 | apply g_2 | apply g_3 | apply g_4 | apply c_1 | apply c_2) | apply r_E | apply b_k | apply s_k | apply s_q)
  refine O_call (by simp (disch := first | decide | (try simp only [zz, hz]) <;> omega | fail) only [go_sem, hz, a0, a1] <;> rfl) ?_
  refine C.mono (hq _ _ _ ((h2.kp kp0).kp k1) ((j2.kp kp0).kp k1)) ?_
  rintro _ σ2 ⟨rfl, k2⟩
  repeat (first | apply s_R | apply o_n | ((first | apply o_p | (refine' o_g rfl rfl ?_ ?_; rotate_left) | apply w_c); (focus simp (disch := first | decide | (try simp only [zz, hz]) <;> omega | fail) only [go_sem, hz] <;> rfl); with_reducible first | apply o_i | apply g_1 | apply g_2 | apply g_3 | apply g_4 | apply c_1 | apply c_2) | apply r_E | apply b_k | apply s_k | apply s_q)
  refine W_ret ?_; (try simp only [Then, Out, Jump, JumpL]); refine ret_mk (by simp (disch := first | decide | (try simp only [zz, hz]) <;> omega | fail) only [go_sem, hz] <;> rfl) ?_; (try simp only [resultA])
  exact ⟨by first | rfl | trivial, (kp0.trans k1).trans k2⟩
theorem sameEs_c {ps : List Tr} (hlen : ps.length ≤ 1000000) (hf : ∀ p ∈ ps, ∀ σ v v', Rd σ TT p v → Rd σ TT p v' → C Tryz.prog 30 [v, v'] σ fun r σ' => r = .bool true ∧ Kp σ σ') (hs : ∀ p ∈ ps, ∃ k m s t kids qs, p = mkE k m s t kids qs) : SameC 14 6 ps := by
  intro σ v v' h h'
  have l1 : ∀ τ, lenA Tryz.prog τ 34 v = some (.int .i64 ps.length) := fun τ => by obtain ⟨a, c, rfl⟩ := rd_len h; exact ln_34 τ a _ c
  have l2 : ∀ τ, lenA Tryz.prog τ 34 v' = some (.int .i64 ps.length) := fun τ => by obtain ⟨a, c, rfl⟩ := rd_len h'; exact ln_34 τ a _ c
  refine C_enter rfl Tryz.func14 rfl Tryz.ntmps14 Tryz.results14 (Nat.le_of_ble_eq_true rfl) ?_; intro A hz hA; have a0 := hA 0 _ rfl; have a1 := hA 1 _ rfl; clear hA
  have q1 : ((ps.length : Int) != (ps.length : Int)) = false := by simp
  repeat (first | apply s_R | apply o_n | ((first | apply o_p | (refine' o_g rfl rfl ?_ ?_; rotate_left) | apply w_c); (focus simp (disch := first | decide | (try simp only [zz, hz]) <;> omega | fail) only [go_sem, hz, a0, a1, l1, l2, q1] <;> rfl); with_reducible first | apply o_i | apply g_1 | apply g_2 | apply g_3 | apply g_4 | apply c_1 | apply c_2) | apply r_E | apply b_k | apply s_k | apply s_q)
  refine W_loop (WL_inv (fun m B σ1 => ∃ i, i ≤ ps.length ∧ m = ps.length - i ∧ B.size = 27 ∧ B.get 0 = some v ∧ B.get 1 = some v' ∧ B.get 5 = some (.int .i64 (i : Int)) ∧ Kp σ σ1) ?_ (m := ps.length) (by refine' ⟨0, Nat.zero_le _, rfl, ?_, ?_, ?_, ?_, Kp.refl σ⟩; any_goals simp (disch := first | decide | (try simp only [zz, hz]) <;> omega | fail) only [go_sem, hz, a0, a1] <;> rfl))
  rintro m B σ1 ⟨i, hi, rfl, hz, b0, b1, b5, kp⟩
  by_cases hlt : i < ps.length
  · have c1 : decide ((i : Int) < (ps.length : Int)) = true := by simp [hlt]
    obtain ⟨ba, o, c, cs, x, rfl, hrow, hel, htk, hx, hxl⟩ := rd_el h sz_37 hlt
    obtain ⟨ba', o', c', cs', x', rfl, hrow', hel', htk', hx', hxl'⟩ := rd_el h' sz_37 hlt
    have hr1 := hrow _ kp
    have hr2 := hrow' _ kp
    have hp := List.getElem_mem hlt
    obtain ⟨l, rfl⟩ : ∃ l, x = .agg ⟨l⟩ := by
      obtain ⟨_, _, _, _, _, _, e⟩ := hs _ hp
      rw [e] at hx
      obtain ⟨l, e, _⟩ := rd_agg.1 hx
      exact ⟨l, e⟩
    obtain ⟨l', rfl⟩ : ∃ l, x' = .agg ⟨l⟩ := by
      obtain ⟨_, _, _, _, _, _, e⟩ := hs _ hp
      rw [e] at hx'
      obtain ⟨l, e, _⟩ := rd_agg.1 hx'
      exact ⟨l, e⟩
    simp only [cellsL] at htk htk' hxl hxl'
    repeat (first | apply s_R | apply o_n | ((first | apply o_p | (refine' o_g rfl rfl ?_ ?_; rotate_left) | apply w_c); (focus simp (disch := first | decide | (try simp only [zz, hz]) <;> omega | fail) only [go_sem, hz, b0, b1, b5, c1, l1] <;> rfl); with_reducible first | apply o_i | apply g_1 | apply g_2 | apply g_3 | apply g_4 | apply c_1 | apply c_2) | apply r_E | apply b_k | apply s_k | apply s_q)
    refine W_regDE mixed (by kernel_rfl) (by kernel_rfl) ?_
    repeat (apply v_x; (focus simp (disch := first | decide | (try simp only [zz, hz]) <;> omega | fail) only [go_sem, hz, b0, b1, b5, hel, hel', ↓hr1, ↓hr2, htk, htk', hxl, hxl'] <;> rfl); first | refine vX_n ?_ | refine vX_l ?_ | refine vX_e ?_)
    refine V_call (by simp (disch := first | decide | (try simp only [zz, hz]) <;> omega | fail) only [go_sem, hz] <;> rfl) ?_
    refine C.mono (hf _ hp _ _ _ (hx.kp kp) (hx'.kp kp)) ?_
    rintro _ σ2 ⟨rfl, k2⟩
    repeat (apply v_x; (focus simp (disch := first | decide | (try simp only [zz, hz]) <;> omega | fail) only [go_sem, hz] <;> rfl); first | refine vX_n ?_ | refine vX_l ?_ | refine vX_e ?_)
    refine V_nil ?_; refine And.intro (owes_by (L := [(3, 0), (7, 0)]) ?_ ?_) ?_; rotate_left 2; (try simp only [Then, Out, JumpL]); rotate_right 2; focus (kernel_rfl)
    · (repeat (refine owe_cons (Owed_op rfl rfl rfl rfl rfl (by simp (disch := first | decide | (try simp only [zz, hz]) <;> omega | fail) only [go_sem, hz, b0, b1, b5, hel, hel', ↓hr1, ↓hr2, htk, htk', hxl, hxl'] <;> rfl)) ?_)); exact owe_nil
    have hadd : fastB .add (.int .i64 (i : Int)) (.int .i64 1) = some (.int .i64 ((i + 1 : Nat) : Int)) := by rw [bin_addI (by omega) (by omega)]; rfl
    repeat (first | apply s_R | apply o_n | ((first | apply o_p | (refine' o_g rfl rfl ?_ ?_; rotate_left) | apply w_c); (focus simp (disch := first | decide | (try simp only [zz, hz]) <;> omega | fail) only [go_sem, hz, b0, b1, b5, hadd] <;> rfl); with_reducible first | apply o_i | apply g_1 | apply g_2 | apply g_3 | apply g_4 | apply c_1 | apply c_2) | apply r_E | apply b_k | apply s_k | apply s_q)
    exact (by refine' ⟨ps.length - (i + 1), by omega, i + 1, hlt, rfl, ?_, ?_, ?_, ?_, kp.trans k2⟩; any_goals simp (disch := first | decide | (try simp only [zz, hz]) <;> omega | fail) only [go_sem, hz, b0, b1] <;> rfl)
  · have c1 : decide ((i : Int) < (ps.length : Int)) = false := by simp [hlt]
    repeat (first | apply s_R | apply o_n | ((first | apply o_p | (refine' o_g rfl rfl ?_ ?_; rotate_left) | apply w_c); (focus simp (disch := first | decide | (try simp only [zz, hz]) <;> omega | fail) only [go_sem, hz, b0, b1, b5, c1, l1] <;> rfl); with_reducible first | apply o_i | apply g_1 | apply g_2 | apply g_3 | apply g_4 | apply c_1 | apply c_2) | apply r_E | apply b_k | apply s_k | apply s_q)
    refine W_exit ?_; simp only [Then, Out, JumpL, reduceIte, Nat.reduceEqDiff]
    repeat (first | apply s_R | apply o_n | ((first | apply o_p | (refine' o_g rfl rfl ?_ ?_; rotate_left) | apply w_c); (focus simp (disch := first | decide | (try simp only [zz, hz]) <;> omega | fail) only [go_sem, hz] <;> rfl); with_reducible first | apply o_i | apply g_1 | apply g_2 | apply g_3 | apply g_4 | apply c_1 | apply c_2) | apply r_E | apply b_k | apply s_k | apply s_q)
    refine W_ret ?_; (try simp only [Then, Out, Jump, JumpL]); refine ret_mk (by simp (disch := first | decide | (try simp only [zz, hz]) <;> omega | fail) only [go_sem, hz] <;> rfl) ?_; (try simp only [resultA])
    exact ⟨by first | rfl | trivial, kp⟩
theorem sameQs_c {ps : List Tr} (hlen : ps.length ≤ 1000000) (hf : ∀ p ∈ ps, ∀ σ v v', Rd σ TT p v → Rd σ TT p v' → C Tryz.prog 31 [v, v'] σ fun r σ' => r = .bool true ∧ Kp σ σ') (hs : ∀ p ∈ ps, ∃ k d m items froms wh gr ha or kids, p = mkQ k d m items froms wh gr ha or kids) : SameC 15 10 ps := by
  intro σ v v' h h'
  have l1 : ∀ τ, lenA Tryz.prog τ 35 v = some (.int .i64 ps.length) := fun τ => by obtain ⟨a, c, rfl⟩ := rd_len h; exact ln_35 τ a _ c
  have l2 : ∀ τ, lenA Tryz.prog τ 35 v' = some (.int .i64 ps.length) := fun τ => by obtain ⟨a, c, rfl⟩ := rd_len h'; exact ln_35 τ a _ c
  refine C_enter rfl Tryz.func15 rfl Tryz.ntmps15 Tryz.results15 (Nat.le_of_ble_eq_true rfl) ?_; intro A hz hA; have a0 := hA 0 _ rfl; have a1 := hA 1 _ rfl; clear hA
  have q1 : ((ps.length : Int) != (ps.length : Int)) = false := by simp
  repeat (first | apply s_R | apply o_n | ((first | apply o_p | (refine' o_g rfl rfl ?_ ?_; rotate_left) | apply w_c); (focus simp (disch := first | decide | (try simp only [zz, hz]) <;> omega | fail) only [go_sem, hz, a0, a1, l1, l2, q1] <;> rfl); with_reducible first | apply o_i | apply g_1 | apply g_2 | apply g_3 | apply g_4 | apply c_1 | apply c_2) | apply r_E | apply b_k | apply s_k | apply s_q)
  refine W_loop (WL_inv (fun m B σ1 => ∃ i, i ≤ ps.length ∧ m = ps.length - i ∧ B.size = 27 ∧ B.get 0 = some v ∧ B.get 1 = some v' ∧ B.get 5 = some (.int .i64 (i : Int)) ∧ Kp σ σ1) ?_ (m := ps.length) (by refine' ⟨0, Nat.zero_le _, rfl, ?_, ?_, ?_, ?_, Kp.refl σ⟩; any_goals simp (disch := first | decide | (try simp only [zz, hz]) <;> omega | fail) only [go_sem, hz, a0, a1] <;> rfl))
  rintro m B σ1 ⟨i, hi, rfl, hz, b0, b1, b5, kp⟩
  by_cases hlt : i < ps.length
  · have c1 : decide ((i : Int) < (ps.length : Int)) = true := by simp [hlt]
    obtain ⟨ba, o, c, cs, x, rfl, hrow, hel, htk, hx, hxl⟩ := rd_el h sz_44 hlt
    obtain ⟨ba', o', c', cs', x', rfl, hrow', hel', htk', hx', hxl'⟩ := rd_el h' sz_44 hlt
    have hr1 := hrow _ kp
    have hr2 := hrow' _ kp
    have hp := List.getElem_mem hlt
    obtain ⟨l, rfl⟩ : ∃ l, x = .agg ⟨l⟩ := by
      obtain ⟨_, _, _, _, _, _, _, _, _, _, e⟩ := hs _ hp
      rw [e] at hx
      obtain ⟨l, e, _⟩ := rd_agg.1 hx
      exact ⟨l, e⟩
    obtain ⟨l', rfl⟩ : ∃ l, x' = .agg ⟨l⟩ := by
      obtain ⟨_, _, _, _, _, _, _, _, _, _, e⟩ := hs _ hp
      rw [e] at hx'
      obtain ⟨l, e, _⟩ := rd_agg.1 hx'
      exact ⟨l, e⟩
    simp only [cellsL] at htk htk' hxl hxl'
    repeat (first | apply s_R | apply o_n | ((first | apply o_p | (refine' o_g rfl rfl ?_ ?_; rotate_left) | apply w_c); (focus simp (disch := first | decide | (try simp only [zz, hz]) <;> omega | fail) only [go_sem, hz, b0, b1, b5, c1, l1] <;> rfl); with_reducible first | apply o_i | apply g_1 | apply g_2 | apply g_3 | apply g_4 | apply c_1 | apply c_2) | apply r_E | apply b_k | apply s_k | apply s_q)
    refine W_regDE mixed (by kernel_rfl) (by kernel_rfl) ?_
    repeat (apply v_x; (focus simp (disch := first | decide | (try simp only [zz, hz]) <;> omega | fail) only [go_sem, hz, b0, b1, b5, hel, hel', ↓hr1, ↓hr2, htk, htk', hxl, hxl'] <;> rfl); first | refine vX_n ?_ | refine vX_l ?_ | refine vX_e ?_)
    refine V_call (by simp (disch := first | decide | (try simp only [zz, hz]) <;> omega | fail) only [go_sem, hz] <;> rfl) ?_
    refine C.mono (hf _ hp _ _ _ (hx.kp kp) (hx'.kp kp)) ?_
    rintro _ σ2 ⟨rfl, k2⟩
    repeat (apply v_x; (focus simp (disch := first | decide | (try simp only [zz, hz]) <;> omega | fail) only [go_sem, hz] <;> rfl); first | refine vX_n ?_ | refine vX_l ?_ | refine vX_e ?_)
    refine V_nil ?_; refine And.intro (owes_by (L := [(3, 0), (7, 0)]) ?_ ?_) ?_; rotate_left 2; (try simp only [Then, Out, JumpL]); rotate_right 2; focus (kernel_rfl)
    · (repeat (refine owe_cons (Owed_op rfl rfl rfl rfl rfl (by simp (disch := first | decide | (try simp only [zz, hz]) <;> omega | fail) only [go_sem, hz, b0, b1, b5, hel, hel', ↓hr1, ↓hr2, htk, htk', hxl, hxl'] <;> rfl)) ?_)); exact owe_nil
    have hadd : fastB .add (.int .i64 (i : Int)) (.int .i64 1) = some (.int .i64 ((i + 1 : Nat) : Int)) := by rw [bin_addI (by omega) (by omega)]; rfl
    repeat (first | apply s_R | apply o_n | ((first | apply o_p | (refine' o_g rfl rfl ?_ ?_; rotate_left) | apply w_c); (focus simp (disch := first | decide | (try simp only [zz, hz]) <;> omega | fail) only [go_sem, hz, b0, b1, b5, hadd] <;> rfl); with_reducible first | apply o_i | apply g_1 | apply g_2 | apply g_3 | apply g_4 | apply c_1 | apply c_2) | apply r_E | apply b_k | apply s_k | apply s_q)
    exact (by refine' ⟨ps.length - (i + 1), by omega, i + 1, hlt, rfl, ?_, ?_, ?_, ?_, kp.trans k2⟩; any_goals simp (disch := first | decide | (try simp only [zz, hz]) <;> omega | fail) only [go_sem, hz, b0, b1] <;> rfl)
  · have c1 : decide ((i : Int) < (ps.length : Int)) = false := by simp [hlt]
    repeat (first | apply s_R | apply o_n | ((first | apply o_p | (refine' o_g rfl rfl ?_ ?_; rotate_left) | apply w_c); (focus simp (disch := first | decide | (try simp only [zz, hz]) <;> omega | fail) only [go_sem, hz, b0, b1, b5, c1, l1] <;> rfl); with_reducible first | apply o_i | apply g_1 | apply g_2 | apply g_3 | apply g_4 | apply c_1 | apply c_2) | apply r_E | apply b_k | apply s_k | apply s_q)
    refine W_exit ?_; simp only [Then, Out, JumpL, reduceIte, Nat.reduceEqDiff]
    repeat (first | apply s_R | apply o_n | ((first | apply o_p | (refine' o_g rfl rfl ?_ ?_; rotate_left) | apply w_c); (focus simp (disch := first | decide | (try simp only [zz, hz]) <;> omega | fail) only [go_sem, hz] <;> rfl); with_reducible first | apply o_i | apply g_1 | apply g_2 | apply g_3 | apply g_4 | apply c_1 | apply c_2) | apply r_E | apply b_k | apply s_k | apply s_q)
    refine W_ret ?_; (try simp only [Then, Out, Jump, JumpL]); refine ret_mk (by simp (disch := first | decide | (try simp only [zz, hz]) <;> omega | fail) only [go_sem, hz] <;> rfl) ?_; (try simp only [resultA])
    exact ⟨by first | rfl | trivial, kp⟩
theorem take_6 {cs l : List Value} {q : Nat} {v : Value} (h : (cs.drop q).take 7 = l ++ [v]) (hl : l.length = 6) : (cs.drop q).take 6 = l ∧ cs[q + 6]? = some v := by
  constructor
  · have := congrArg (List.take 6) h
    rw [List.take_take, List.take_left' hl] at this
    exact this
  · have : ((cs.drop q).take 7)[6]? = some v := by rw [h, List.getElem?_append_right (by omega), hl]; rfl
    simpa [List.getElem?_take, List.getElem?_drop] using this
theorem mkE_shape {σ : AW} {D : Nat → Prop} {k m : Int} {s t : ByteArray} {kids qs : List Tr} {y x : Value} (h : Rd σ D (.agg ⟨cellsT (mkE k m s t kids qs) ++ [y]⟩) x) : ∃ l v, x = .agg ⟨l ++ [v]⟩ ∧ l.length = 6 ∧ Rd σ D (mkE k m s t kids qs) (.agg ⟨l⟩) ∧ Rd σ D y v := by
  obtain ⟨l, rfl, h0⟩ : ∃ l, x = .agg ⟨l⟩ ∧ RdL σ D (cellsT (mkE k m s t kids qs) ++ [y]) l := rd_agg.1 h
  change RdL σ D [.int .i64 k, .int .i64 m, .string s, .string t, sl 6 kids, sl 10 qs, y] l at h0
  obtain ⟨v1, _, rfl, h1, v2, _, rfl, h2, v3, _, rfl, h3, v4, _, rfl, h4, v5, _, rfl, h5, v6, _, rfl, h6, v7, _, rfl, h7, rfl⟩ := h0
  exact ⟨[v1, v2, v3, v4, v5, v6], v7, rfl, rfl, rd_agg.2 ⟨_, rfl, v1, _, rfl, h1, v2, _, rfl, h2, v3, _, rfl, h3, v4, _, rfl, h4, v5, _, rfl, h5, v6, _, rfl, h6, rfl⟩, h7⟩
def SameX (g : Nat) (p : Tr) : Prop := ∀ σ v v', Rd σ TT p v → Rd σ TT p v' → C Tryz.prog g [v, v'] σ fun r σ' => r = .bool true ∧ Kp σ σ'
def ItemsOK (l : List Tr) : Prop := ∀ x ∈ l, ∃ k m s t kids qs nm, x = withName (mkE k m s t kids qs) nm ∧ SameX 30 (mkE k m s t kids qs)
def KeysOK (l : List Tr) : Prop := ∀ x ∈ l, ∃ k m s t kids qs b, x = withFlag (mkE k m s t kids qs) b ∧ SameX 30 (mkE k m s t kids qs)

set_option maxHeartbeats 3200000 in
theorem sameQ_c {k m : Int} {d : Bool} {items froms wh gr ha or kids : List Tr} (hi : ItemsOK items) (hil : items.length ≤ 1000000) (ho : KeysOK or) (hol : or.length ≤ 1000000) (hf : SameC 58 7 froms) (hw : SameC 14 6 wh) (hg : SameC 14 6 gr) (hh : SameC 14 6 ha) (hk : SameC 15 10 kids) : SameX 31 (mkQ k d m items froms wh gr ha or kids) := by
  intro σ v v' h h'
  obtain ⟨_, rfl, _, _, rfl, rfl, _, _, rfl, rfl, v1, _, rfl, h1, v2, _, rfl, h2, v3, _, rfl, h3, v4, _, rfl, h4, v5, _, rfl, h5, v6, _, rfl, h6, _, _, rfl, rfl, v7, _, rfl, h7, rfl⟩ := rd_agg.1 h
  obtain ⟨_, rfl, _, _, rfl, rfl, _, _, rfl, rfl, u1, _, rfl, j1, u2, _, rfl, j2, u3, _, rfl, j3, u4, _, rfl, j4, u5, _, rfl, j5, u6, _, rfl, j6, _, _, rfl, rfl, u7, _, rfl, j7, rfl⟩ := rd_agg.1 h'
  clear h h'
  have p1 : ∀ τ, lenA Tryz.prog τ 40 v1 = some (.int .i64 items.length) := fun τ => by obtain ⟨a, c, rfl⟩ := rd_len h1; exact ln_40 τ a _ c
  have p2 : ∀ τ, lenA Tryz.prog τ 40 u1 = some (.int .i64 items.length) := fun τ => by obtain ⟨a, c, rfl⟩ := rd_len j1; exact ln_40 τ a _ c
  have p3 : ∀ τ, lenA Tryz.prog τ 42 v6 = some (.int .i64 or.length) := fun τ => by obtain ⟨a, c, rfl⟩ := rd_len h6; exact ln_42 τ a _ c
  have p4 : ∀ τ, lenA Tryz.prog τ 42 u6 = some (.int .i64 or.length) := fun τ => by obtain ⟨a, c, rfl⟩ := rd_len j6; exact ln_42 τ a _ c
  have q1 : ((items.length : Int) != (items.length : Int)) = false := by simp
  have q2 : ((or.length : Int) != (or.length : Int)) = false := by simp
  have q3 : (k != k) = false := by simp
  have q4 : (m != m) = false := by simp
  have q5 : (d != d) = false := by simp
  refine C_enter rfl Tryz.func31 rfl Tryz.ntmps31 Tryz.results31 (Nat.le_of_ble_eq_true rfl) ?_; intro A hz hA; have a0 := hA 0 _ rfl; have a1 := hA 1 _ rfl; clear hA
  have kp0 := (Kp.refl σ).push ⟨1, 44, 0, [.int .i64 k, .bool d, v1, v2, v3, v4, v5, v6, .int .i64 m, v7]⟩ |>.push ⟨1, 44, 0, [.int .i64 k, .bool d, u1, u2, u3, u4, u5, u6, .int .i64 m, u7]⟩
  repeat (first | apply s_R | apply o_n | ((first | apply o_p | (refine' o_g rfl rfl ?_ ?_; rotate_left) | apply w_c); (focus simp (disch := first | decide | (try simp only [zz, hz]) <;> omega | fail) only [go_sem, hz, a0, a1, p1, p2, p3, p4, q1, q2, q3, q4, q5] <;> rfl); with_reducible first | apply o_i | apply g_1 | apply g_2 | apply g_3 | apply g_4 | apply c_1 | apply c_2) | apply r_E | apply b_k | apply s_k | apply s_q)

  obtain ⟨τ0, hτ⟩ : ∃ τ, τ = (σ.push ⟨1, 44, 0, [.int .i64 k, .bool d, v1, v2, v3, v4, v5, v6, .int .i64 m, v7]⟩).push ⟨1, 44, 0, [.int .i64 k, .bool d, u1, u2, u3, u4, u5, u6, .int .i64 m, u7]⟩ := ⟨_, rfl⟩
  have nx0 : τ0.next = σ.next + 1 + 1 := by rw [hτ]; rfl
  have gA0 : τ0.get σ.next = ⟨1, 44, 0, [.int .i64 k, .bool d, v1, v2, v3, v4, v5, v6, .int .i64 m, v7]⟩ := by rw [hτ]; exact by simp (disch := first | decide | (try simp only [zz, hz]) <;> omega | fail) only [go_sem, hz] <;> rfl
  have gB0 : τ0.get (σ.next + 1) = ⟨1, 44, 0, [.int .i64 k, .bool d, u1, u2, u3, u4, u5, u6, .int .i64 m, u7]⟩ := by rw [hτ]; exact by simp (disch := first | decide | (try simp only [zz, hz]) <;> omega | fail) only [go_sem, hz] <;> rfl
  rw [← hτ] at kp0 ⊢
  clear hτ
  refine W_loop (WL_inv (fun mm B σ1 => ∃ i, i ≤ items.length ∧ mm = items.length - i ∧ B.size = 149 ∧ B.get 2 = some (.pointer (some ⟨σ.next, 0, none⟩)) ∧ B.get 3 = some (.pointer (some ⟨σ.next + 1, 0, none⟩)) ∧ B.get 5 = some (.int .i64 (i : Int)) ∧ Kp τ0 σ1) ?_ (m := items.length) (by refine' ⟨0, Nat.zero_le _, rfl, ?_, ?_, ?_, ?_, Kp.refl τ0⟩; any_goals simp (disch := first | decide | (try simp only [zz, hz]) <;> omega | fail) only [go_sem, hz] <;> rfl))
  rintro mm B σ1 ⟨i, hi1, rfl, hz, b2, b3, b5, kp⟩
  have gA : σ1.get σ.next = ⟨1, 44, 0, [.int .i64 k, .bool d, v1, v2, v3, v4, v5, v6, .int .i64 m, v7]⟩ := (kp.get _ (by rw [nx0]; omega)).trans gA0
  have gB : σ1.get (σ.next + 1) = ⟨1, 44, 0, [.int .i64 k, .bool d, u1, u2, u3, u4, u5, u6, .int .i64 m, u7]⟩ := (kp.get _ (by rw [nx0]; omega)).trans gB0
  have kp2 := kp0.trans kp
  by_cases hlt : i < items.length
  · have c1 : decide ((i : Int) < (items.length : Int)) = true := by simp [hlt]
    obtain ⟨k1, m1, s1, t1, kids1, qs1, nm, hxe, hx0⟩ := hi _ (List.getElem_mem hlt)
    obtain ⟨ba, o1, c, cs, x, rfl, hrow, hel, htk, hx, hxl⟩ := rd_el h1 sz_105 hlt
    obtain ⟨ba', o2, c', cs', x', rfl, hrow', hel', htk', hx', hxl'⟩ := rd_el j1 sz_105 hlt
    rw [hxe] at hx hx'
    obtain ⟨l, v, rfl, hl, hy, hv⟩ := mkE_shape hx
    obtain ⟨l', v', rfl, hl', hy', hv'⟩ := mkE_shape hx'
    simp only [rd_str] at hv hv'
    subst hv hv'
    simp only [cellsL] at htk htk'
    obtain ⟨ht6, hcs⟩ := take_6 htk hl
    obtain ⟨ht6', hcs'⟩ := take_6 htk' hl'
    have hr1 := hrow _ kp2
    have hr2 := hrow' _ kp2
    have q6 : decide (nm = nm) = true := by simp
    repeat (first | apply s_R | apply o_n | ((first | apply o_p | (refine' o_g rfl rfl ?_ ?_; rotate_left) | apply w_c); (focus simp (disch := first | decide | (try simp only [zz, hz]) <;> omega | fail) only [go_sem, hz, b2, b3, b5, c1, gA, gB, p1, p2, p3, p4, hel, hel', ↓hr1, ↓hr2, ht6, ht6', hcs, hcs', hl, hl', q6] <;> rfl); with_reducible first | apply o_i | apply g_1 | apply g_2 | apply g_3 | apply g_4 | apply c_1 | apply c_2) | apply r_E | apply b_k | apply s_k | apply s_q)
    refine W_regDE mixed (by kernel_rfl) (by kernel_rfl) ?_
    repeat (first | (apply v_x; (focus simp (disch := first | decide | (try simp only [zz, hz]) <;> omega | fail) only [go_sem, hz, b2, b3, b5, c1, gA, gB, p1, p2, p3, p4, hel, hel', ↓hr1, ↓hr2, ht6, ht6', hcs, hcs', hl, hl', q6] <;> rfl); first | refine vX_n ?_ | refine vX_l ?_ | refine vX_e ?_) | (refine' V_gX rfl rfl ?_ ?_; rotate_left; (focus simp (disch := first | decide | (try simp only [zz, hz]) <;> omega | fail) only [go_sem, hz, b2, b3, b5, c1, gA, gB, p1, p2, p3, p4, hel, hel', ↓hr1, ↓hr2, ht6, ht6', hcs, hcs', hl, hl', q6] <;> rfl); first | with_reducible apply g_1 | ((with_reducible first | apply g_2 | apply g_3 | apply g_4); first | refine vX_n ?_ | refine vX_l ?_ | refine vX_e ?_)))
    refine V_call (by simp (disch := first | decide | (try simp only [zz, hz]) <;> omega | fail) only [go_sem, hz, b2, b3, b5, c1, gA, gB, p1, p2, p3, p4, hel, hel', ↓hr1, ↓hr2, ht6, ht6', hcs, hcs', hl, hl', q6] <;> rfl) ?_
    refine C.mono (hx0 _ _ _ (hy.kp kp2) (hy'.kp kp2)) ?_
    rintro _ σ2 ⟨rfl, k2⟩
    repeat (first | (apply v_x; (focus simp (disch := first | decide | (try simp only [zz, hz]) <;> omega | fail) only [go_sem, hz, b2, b3, b5, c1, gA, gB, p1, p2, p3, p4, hel, hel', ↓hr1, ↓hr2, ht6, ht6', hcs, hcs', hl, hl', q6] <;> rfl); first | refine vX_n ?_ | refine vX_l ?_ | refine vX_e ?_) | (refine' V_gX rfl rfl ?_ ?_; rotate_left; (focus simp (disch := first | decide | (try simp only [zz, hz]) <;> omega | fail) only [go_sem, hz, b2, b3, b5, c1, gA, gB, p1, p2, p3, p4, hel, hel', ↓hr1, ↓hr2, ht6, ht6', hcs, hcs', hl, hl', q6] <;> rfl); first | with_reducible apply g_1 | ((with_reducible first | apply g_2 | apply g_3 | apply g_4); first | refine vX_n ?_ | refine vX_l ?_ | refine vX_e ?_)))
    refine V_nil ?_; refine And.intro (owes_by (L := [(1, 0), (5, 0), (7, 0), (11, 0), (15, 0), (19, 0), (21, 0), (25, 0)]) ?_ ?_) ?_; rotate_left 2; (try simp only [Then, Out, JumpL]); rotate_right 2; focus (kernel_rfl)
    · (repeat (first | refine owe_cons (Owed_op rfl rfl rfl rfl rfl (by simp (disch := first | decide | (try simp only [zz, hz]) <;> omega | fail) only [go_sem, hz, b2, b3, b5, c1, gA, gB, p1, p2, p3, p4, hel, hel', ↓hr1, ↓hr2, ht6, ht6', hcs, hcs', hl, hl', q6] <;> rfl)) ?_ | refine owe_cons (Owed_opG rfl rfl rfl rfl rfl (by simp (disch := first | decide | (try simp only [zz, hz]) <;> omega | fail) only [go_sem, hz, b2, b3, b5, c1, gA, gB, p1, p2, p3, p4, hel, hel', ↓hr1, ↓hr2, ht6, ht6', hcs, hcs', hl, hl', q6] <;> rfl) rfl (by simp (disch := first | decide | (try simp only [zz, hz]) <;> omega | fail) only [go_sem, hz, b2, b3, b5, c1, gA, gB, p1, p2, p3, p4, hel, hel', ↓hr1, ↓hr2, ht6, ht6', hcs, hcs', hl, hl', q6] <;> rfl)) ?_ | refine owe_cons (Owed_skG rfl rfl rfl rfl rfl (by simp (disch := first | decide | (try simp only [zz, hz]) <;> omega | fail) only [go_sem, hz, b2, b3, b5, c1, gA, gB, p1, p2, p3, p4, hel, hel', ↓hr1, ↓hr2, ht6, ht6', hcs, hcs', hl, hl', q6] <;> rfl)) ?_)); exact owe_nil
    have hadd : fastB .add (.int .i64 (i : Int)) (.int .i64 1) = some (.int .i64 ((i + 1 : Nat) : Int)) := by rw [bin_addI (by omega) (by omega)]; rfl
    repeat (first | apply s_R | apply o_n | ((first | apply o_p | (refine' o_g rfl rfl ?_ ?_; rotate_left) | apply w_c); (focus simp (disch := first | decide | (try simp only [zz, hz]) <;> omega | fail) only [go_sem, hz, b2, b3, b5, hadd] <;> rfl); with_reducible first | apply o_i | apply g_1 | apply g_2 | apply g_3 | apply g_4 | apply c_1 | apply c_2) | apply r_E | apply b_k | apply s_k | apply s_q)
    exact (by refine' ⟨items.length - (i + 1), by omega, i + 1, hlt, rfl, ?_, ?_, ?_, ?_, kp.trans k2⟩; any_goals simp (disch := first | decide | (try simp only [zz, hz]) <;> omega | fail) only [go_sem, hz, b2, b3] <;> rfl)
  · have c1 : decide ((i : Int) < (items.length : Int)) = false := by simp [hlt]
    repeat (first | apply s_R | apply o_n | ((first | apply o_p | (refine' o_g rfl rfl ?_ ?_; rotate_left) | apply w_c); (focus simp (disch := first | decide | (try simp only [zz, hz]) <;> omega | fail) only [go_sem, hz, b2, b3, b5, c1, gA, gB, p1, p2, p3, p4] <;> rfl); with_reducible first | apply o_i | apply g_1 | apply g_2 | apply g_3 | apply g_4 | apply c_1 | apply c_2) | apply r_E | apply b_k | apply s_k | apply s_q)
    refine W_exit ?_; simp only [Then, Out, JumpL, reduceIte, Nat.reduceEqDiff]
    repeat (first | apply s_R | apply o_n | ((first | apply o_p | (refine' o_g rfl rfl ?_ ?_; rotate_left) | apply w_c); (focus simp (disch := first | decide | (try simp only [zz, hz]) <;> omega | fail) only [go_sem, hz, b2, b3, gA, gB] <;> rfl); with_reducible first | apply o_i | apply g_1 | apply g_2 | apply g_3 | apply g_4 | apply c_1 | apply c_2) | apply r_E | apply b_k | apply s_k | apply s_q)
    refine W_loop (WL_inv (fun mm B σ1 => ∃ i, i ≤ or.length ∧ mm = or.length - i ∧ B.size = 149 ∧ B.get 2 = some (.pointer (some ⟨σ.next, 0, none⟩)) ∧ B.get 3 = some (.pointer (some ⟨σ.next + 1, 0, none⟩)) ∧ B.get 6 = some (.int .i64 (i : Int)) ∧ Kp τ0 σ1) ?_ (m := or.length) (by refine' ⟨0, Nat.zero_le _, rfl, ?_, ?_, ?_, ?_, kp⟩; any_goals simp (disch := first | decide | (try simp only [zz, hz]) <;> omega | fail) only [go_sem, hz, b2, b3] <;> rfl))
    rintro mm B σ1 ⟨i, hi1, rfl, hz, b2, b3, b5, kp⟩
    have gA : σ1.get σ.next = ⟨1, 44, 0, [.int .i64 k, .bool d, v1, v2, v3, v4, v5, v6, .int .i64 m, v7]⟩ := (kp.get _ (by rw [nx0]; omega)).trans gA0
    have gB : σ1.get (σ.next + 1) = ⟨1, 44, 0, [.int .i64 k, .bool d, u1, u2, u3, u4, u5, u6, .int .i64 m, u7]⟩ := (kp.get _ (by rw [nx0]; omega)).trans gB0
    have kp2 := kp0.trans kp
    by_cases hlt : i < or.length
    · have c1 : decide ((i : Int) < (or.length : Int)) = true := by simp [hlt]
      obtain ⟨k1, m1, s1, t1, kids1, qs1, nm, hxe, hx0⟩ := ho _ (List.getElem_mem hlt)
      obtain ⟨ba, o1, c, cs, x, rfl, hrow, hel, htk, hx, hxl⟩ := rd_el h6 sz_107 hlt
      obtain ⟨ba', o2, c', cs', x', rfl, hrow', hel', htk', hx', hxl'⟩ := rd_el j6 sz_107 hlt
      rw [hxe] at hx hx'
      obtain ⟨l, v, rfl, hl, hy, hv⟩ := mkE_shape hx
      obtain ⟨l', v', rfl, hl', hy', hv'⟩ := mkE_shape hx'
      simp only [rd_bool] at hv hv'
      subst hv hv'
      simp only [cellsL] at htk htk'
      obtain ⟨ht6, hcs⟩ := take_6 htk hl
      obtain ⟨ht6', hcs'⟩ := take_6 htk' hl'
      have hr1 := hrow _ kp2
      have hr2 := hrow' _ kp2
      have q6 : (nm != nm) = false := by simp
      repeat (first | apply s_R | apply o_n | ((first | apply o_p | (refine' o_g rfl rfl ?_ ?_; rotate_left) | apply w_c); (focus simp (disch := first | decide | (try simp only [zz, hz]) <;> omega | fail) only [go_sem, hz, b2, b3, b5, c1, gA, gB, p1, p2, p3, p4, hel, hel', ↓hr1, ↓hr2, ht6, ht6', hcs, hcs', hl, hl', q6] <;> rfl); with_reducible first | apply o_i | apply g_1 | apply g_2 | apply g_3 | apply g_4 | apply c_1 | apply c_2) | apply r_E | apply b_k | apply s_k | apply s_q)
      refine W_regDE mixed (by kernel_rfl) (by kernel_rfl) ?_
      repeat (first | (apply v_x; (focus simp (disch := first | decide | (try simp only [zz, hz]) <;> omega | fail) only [go_sem, hz, b2, b3, b5, c1, gA, gB, p1, p2, p3, p4, hel, hel', ↓hr1, ↓hr2, ht6, ht6', hcs, hcs', hl, hl', q6] <;> rfl); first | refine vX_n ?_ | refine vX_l ?_ | refine vX_e ?_) | (refine' V_gX rfl rfl ?_ ?_; rotate_left; (focus simp (disch := first | decide | (try simp only [zz, hz]) <;> omega | fail) only [go_sem, hz, b2, b3, b5, c1, gA, gB, p1, p2, p3, p4, hel, hel', ↓hr1, ↓hr2, ht6, ht6', hcs, hcs', hl, hl', q6] <;> rfl); first | with_reducible apply g_1 | ((with_reducible first | apply g_2 | apply g_3 | apply g_4); first | refine vX_n ?_ | refine vX_l ?_ | refine vX_e ?_)))
      refine V_call (by simp (disch := first | decide | (try simp only [zz, hz]) <;> omega | fail) only [go_sem, hz, b2, b3, b5, c1, gA, gB, p1, p2, p3, p4, hel, hel', ↓hr1, ↓hr2, ht6, ht6', hcs, hcs', hl, hl', q6] <;> rfl) ?_
      refine C.mono (hx0 _ _ _ (hy.kp kp2) (hy'.kp kp2)) ?_
      rintro _ σ2 ⟨rfl, k2⟩
      repeat (first | (apply v_x; (focus simp (disch := first | decide | (try simp only [zz, hz]) <;> omega | fail) only [go_sem, hz, b2, b3, b5, c1, gA, gB, p1, p2, p3, p4, hel, hel', ↓hr1, ↓hr2, ht6, ht6', hcs, hcs', hl, hl', q6] <;> rfl); first | refine vX_n ?_ | refine vX_l ?_ | refine vX_e ?_) | (refine' V_gX rfl rfl ?_ ?_; rotate_left; (focus simp (disch := first | decide | (try simp only [zz, hz]) <;> omega | fail) only [go_sem, hz, b2, b3, b5, c1, gA, gB, p1, p2, p3, p4, hel, hel', ↓hr1, ↓hr2, ht6, ht6', hcs, hcs', hl, hl', q6] <;> rfl); first | with_reducible apply g_1 | ((with_reducible first | apply g_2 | apply g_3 | apply g_4); first | refine vX_n ?_ | refine vX_l ?_ | refine vX_e ?_)))
      refine V_nil ?_; refine And.intro (owes_by (L := [(1, 0), (5, 0), (7, 0), (11, 0), (15, 0), (19, 0), (21, 0), (25, 0)]) ?_ ?_) ?_; rotate_left 2; (try simp only [Then, Out, JumpL]); rotate_right 2; focus (kernel_rfl)
      · (repeat (first | refine owe_cons (Owed_op rfl rfl rfl rfl rfl (by simp (disch := first | decide | (try simp only [zz, hz]) <;> omega | fail) only [go_sem, hz, b2, b3, b5, c1, gA, gB, p1, p2, p3, p4, hel, hel', ↓hr1, ↓hr2, ht6, ht6', hcs, hcs', hl, hl', q6] <;> rfl)) ?_ | refine owe_cons (Owed_opG rfl rfl rfl rfl rfl (by simp (disch := first | decide | (try simp only [zz, hz]) <;> omega | fail) only [go_sem, hz, b2, b3, b5, c1, gA, gB, p1, p2, p3, p4, hel, hel', ↓hr1, ↓hr2, ht6, ht6', hcs, hcs', hl, hl', q6] <;> rfl) rfl (by simp (disch := first | decide | (try simp only [zz, hz]) <;> omega | fail) only [go_sem, hz, b2, b3, b5, c1, gA, gB, p1, p2, p3, p4, hel, hel', ↓hr1, ↓hr2, ht6, ht6', hcs, hcs', hl, hl', q6] <;> rfl)) ?_ | refine owe_cons (Owed_skG rfl rfl rfl rfl rfl (by simp (disch := first | decide | (try simp only [zz, hz]) <;> omega | fail) only [go_sem, hz, b2, b3, b5, c1, gA, gB, p1, p2, p3, p4, hel, hel', ↓hr1, ↓hr2, ht6, ht6', hcs, hcs', hl, hl', q6] <;> rfl)) ?_)); exact owe_nil
      have hadd : fastB .add (.int .i64 (i : Int)) (.int .i64 1) = some (.int .i64 ((i + 1 : Nat) : Int)) := by rw [bin_addI (by omega) (by omega)]; rfl
      repeat (first | apply s_R | apply o_n | ((first | apply o_p | (refine' o_g rfl rfl ?_ ?_; rotate_left) | apply w_c); (focus simp (disch := first | decide | (try simp only [zz, hz]) <;> omega | fail) only [go_sem, hz, b2, b3, b5, hadd] <;> rfl); with_reducible first | apply o_i | apply g_1 | apply g_2 | apply g_3 | apply g_4 | apply c_1 | apply c_2) | apply r_E | apply b_k | apply s_k | apply s_q)
      exact (by refine' ⟨or.length - (i + 1), by omega, i + 1, hlt, rfl, ?_, ?_, ?_, ?_, kp.trans k2⟩; any_goals simp (disch := first | decide | (try simp only [zz, hz]) <;> omega | fail) only [go_sem, hz, b2, b3] <;> rfl)
    · have c1 : decide ((i : Int) < (or.length : Int)) = false := by simp [hlt]
      repeat (first | apply s_R | apply o_n | ((first | apply o_p | (refine' o_g rfl rfl ?_ ?_; rotate_left) | apply w_c); (focus simp (disch := first | decide | (try simp only [zz, hz]) <;> omega | fail) only [go_sem, hz, b2, b3, b5, c1, gA, gB, p1, p2, p3, p4] <;> rfl); with_reducible first | apply o_i | apply g_1 | apply g_2 | apply g_3 | apply g_4 | apply c_1 | apply c_2) | apply r_E | apply b_k | apply s_k | apply s_q)
      refine W_exit ?_; simp only [Then, Out, JumpL, reduceIte, Nat.reduceEqDiff]
      repeat (first | apply s_R | apply o_n | ((first | apply o_p | (refine' o_g rfl rfl ?_ ?_; rotate_left) | apply w_c); (focus simp (disch := first | decide | (try simp only [zz, hz]) <;> omega | fail) only [go_sem, hz, b2, b3, gA, gB] <;> rfl); with_reducible first | apply o_i | apply g_1 | apply g_2 | apply g_3 | apply g_4 | apply c_1 | apply c_2) | apply r_E | apply b_k | apply s_k | apply s_q)
      have nx1 := kp.next
      refine O_call (by simp (disch := first | decide | (try simp only [zz, hz]) <;> omega | fail) only [go_sem, hz, b2, b3] <;> rfl) ?_
      refine C.mono (hf _ _ _ (h2.kp kp2) (j2.kp kp2)) ?_
      rintro _ σ2 ⟨rfl, r2⟩
      replace kp2 := kp2.trans r2
      have nx2 := r2.next
      have gA2 : σ2.get σ.next = ⟨1, 44, 0, [.int .i64 k, .bool d, v1, v2, v3, v4, v5, v6, .int .i64 m, v7]⟩ := (r2.get _ (by have := kp.next; omega)).trans gA
      have gB2 : σ2.get (σ.next + 1) = ⟨1, 44, 0, [.int .i64 k, .bool d, u1, u2, u3, u4, u5, u6, .int .i64 m, u7]⟩ := (r2.get _ (by have := kp.next; omega)).trans gB
      repeat (first | apply s_R | apply o_n | ((first | apply o_p | (refine' o_g rfl rfl ?_ ?_; rotate_left) | apply w_c); (focus simp (disch := first | decide | (try simp only [zz, hz]) <;> omega | fail) only [go_sem, hz, b2, b3, gA2, gB2] <;> rfl); with_reducible first | apply o_i | apply g_1 | apply g_2 | apply g_3 | apply g_4 | apply c_1 | apply c_2) | apply r_E | apply b_k | apply s_k | apply s_q)
      refine O_call (by simp (disch := first | decide | (try simp only [zz, hz]) <;> omega | fail) only [go_sem, hz, b2, b3] <;> rfl) ?_
      refine C.mono (hw _ _ _ (h3.kp kp2) (j3.kp kp2)) ?_
      rintro _ σ3 ⟨rfl, r3⟩
      replace kp2 := kp2.trans r3
      have nx3 := r3.next
      have gA3 : σ3.get σ.next = ⟨1, 44, 0, [.int .i64 k, .bool d, v1, v2, v3, v4, v5, v6, .int .i64 m, v7]⟩ := (r3.get _ (by have := kp.next; omega)).trans gA2
      have gB3 : σ3.get (σ.next + 1) = ⟨1, 44, 0, [.int .i64 k, .bool d, u1, u2, u3, u4, u5, u6, .int .i64 m, u7]⟩ := (r3.get _ (by have := kp.next; omega)).trans gB2
      repeat (first | apply s_R | apply o_n | ((first | apply o_p | (refine' o_g rfl rfl ?_ ?_; rotate_left) | apply w_c); (focus simp (disch := first | decide | (try simp only [zz, hz]) <;> omega | fail) only [go_sem, hz, b2, b3, gA3, gB3] <;> rfl); with_reducible first | apply o_i | apply g_1 | apply g_2 | apply g_3 | apply g_4 | apply c_1 | apply c_2) | apply r_E | apply b_k | apply s_k | apply s_q)
      refine O_call (by simp (disch := first | decide | (try simp only [zz, hz]) <;> omega | fail) only [go_sem, hz, b2, b3] <;> rfl) ?_
      refine C.mono (hg _ _ _ (h4.kp kp2) (j4.kp kp2)) ?_
      rintro _ σ4 ⟨rfl, r4⟩
      replace kp2 := kp2.trans r4
      have nx4 := r4.next
      have gA4 : σ4.get σ.next = ⟨1, 44, 0, [.int .i64 k, .bool d, v1, v2, v3, v4, v5, v6, .int .i64 m, v7]⟩ := (r4.get _ (by have := kp.next; omega)).trans gA3
      have gB4 : σ4.get (σ.next + 1) = ⟨1, 44, 0, [.int .i64 k, .bool d, u1, u2, u3, u4, u5, u6, .int .i64 m, u7]⟩ := (r4.get _ (by have := kp.next; omega)).trans gB3
      repeat (first | apply s_R | apply o_n | ((first | apply o_p | (refine' o_g rfl rfl ?_ ?_; rotate_left) | apply w_c); (focus simp (disch := first | decide | (try simp only [zz, hz]) <;> omega | fail) only [go_sem, hz, b2, b3, gA4, gB4] <;> rfl); with_reducible first | apply o_i | apply g_1 | apply g_2 | apply g_3 | apply g_4 | apply c_1 | apply c_2) | apply r_E | apply b_k | apply s_k | apply s_q)
      refine O_call (by simp (disch := first | decide | (try simp only [zz, hz]) <;> omega | fail) only [go_sem, hz, b2, b3] <;> rfl) ?_
      refine C.mono (hh _ _ _ (h5.kp kp2) (j5.kp kp2)) ?_
      rintro _ σ5 ⟨rfl, r5⟩
      replace kp2 := kp2.trans r5
      have nx5 := r5.next
      have gA5 : σ5.get σ.next = ⟨1, 44, 0, [.int .i64 k, .bool d, v1, v2, v3, v4, v5, v6, .int .i64 m, v7]⟩ := (r5.get _ (by have := kp.next; omega)).trans gA4
      have gB5 : σ5.get (σ.next + 1) = ⟨1, 44, 0, [.int .i64 k, .bool d, u1, u2, u3, u4, u5, u6, .int .i64 m, u7]⟩ := (r5.get _ (by have := kp.next; omega)).trans gB4
      repeat (first | apply s_R | apply o_n | ((first | apply o_p | (refine' o_g rfl rfl ?_ ?_; rotate_left) | apply w_c); (focus simp (disch := first | decide | (try simp only [zz, hz]) <;> omega | fail) only [go_sem, hz, b2, b3, gA5, gB5] <;> rfl); with_reducible first | apply o_i | apply g_1 | apply g_2 | apply g_3 | apply g_4 | apply c_1 | apply c_2) | apply r_E | apply b_k | apply s_k | apply s_q)
      refine O_call (by simp (disch := first | decide | (try simp only [zz, hz]) <;> omega | fail) only [go_sem, hz, b2, b3] <;> rfl) ?_
      refine C.mono (hk _ _ _ (h7.kp kp2) (j7.kp kp2)) ?_
      rintro _ σ6 ⟨rfl, r6⟩
      replace kp2 := kp2.trans r6
      have nx6 := r6.next
      have gA6 : σ6.get σ.next = ⟨1, 44, 0, [.int .i64 k, .bool d, v1, v2, v3, v4, v5, v6, .int .i64 m, v7]⟩ := (r6.get _ (by have := kp.next; omega)).trans gA5
      have gB6 : σ6.get (σ.next + 1) = ⟨1, 44, 0, [.int .i64 k, .bool d, u1, u2, u3, u4, u5, u6, .int .i64 m, u7]⟩ := (r6.get _ (by have := kp.next; omega)).trans gB5
      repeat (first | apply s_R | apply o_n | ((first | apply o_p | (refine' o_g rfl rfl ?_ ?_; rotate_left) | apply w_c); (focus simp (disch := first | decide | (try simp only [zz, hz]) <;> omega | fail) only [go_sem, hz, b2, b3, gA6, gB6] <;> rfl); with_reducible first | apply o_i | apply g_1 | apply g_2 | apply g_3 | apply g_4 | apply c_1 | apply c_2) | apply r_E | apply b_k | apply s_k | apply s_q)
      refine W_ret ?_; (try simp only [Then, Out, Jump, JumpL]); refine ret_mk (by simp (disch := first | decide | (try simp only [zz, hz]) <;> omega | fail) only [go_sem, hz] <;> rfl) ?_; (try simp only [resultA])
      exact ⟨by first | rfl | trivial, kp2⟩
def FromsOK (l : List Tr) : Prop := ∀ x ∈ l, ∃ k v t a q kids on, x = mkF k v t a q kids on ∧ SameC 15 10 q ∧ SameC 58 7 kids ∧ SameC 14 6 on
set_option maxHeartbeats 1600000 in
theorem sameFs_c {ps : List Tr} (hlen : ps.length ≤ 1000000) (hs : FromsOK ps) : SameC 58 7 ps := by
  intro σ v v' h h'
  have l1 : ∀ τ, lenA Tryz.prog τ 41 v = some (.int .i64 ps.length) := fun τ => by obtain ⟨a, c, rfl⟩ := rd_len h; exact ln_41 τ a _ c
  have l2 : ∀ τ, lenA Tryz.prog τ 41 v' = some (.int .i64 ps.length) := fun τ => by obtain ⟨a, c, rfl⟩ := rd_len h'; exact ln_41 τ a _ c
  refine C_enter rfl Tryz.func58 rfl Tryz.ntmps58 Tryz.results58 (Nat.le_of_ble_eq_true rfl) ?_; intro A hz hA; have a0 := hA 0 _ rfl; have a1 := hA 1 _ rfl; clear hA
  have q1 : ((ps.length : Int) != (ps.length : Int)) = false := by simp
  repeat (first | apply s_R | apply o_n | ((first | apply o_p | (refine' o_g rfl rfl ?_ ?_; rotate_left) | apply w_c); (focus simp (disch := first | decide | (try simp only [zz, hz]) <;> omega | fail) only [go_sem, hz, a0, a1, l1, l2, q1] <;> rfl); with_reducible first | apply o_i | apply g_1 | apply g_2 | apply g_3 | apply g_4 | apply c_1 | apply c_2) | apply r_E | apply b_k | apply s_k | apply s_q)
  refine W_loop (WL_inv (fun m B σ1 => ∃ i, i ≤ ps.length ∧ m = ps.length - i ∧ B.size = 77 ∧ B.get 0 = some v ∧ B.get 1 = some v' ∧ B.get 5 = some (.int .i64 (i : Int)) ∧ Kp σ σ1) ?_ (m := ps.length) (by refine' ⟨0, Nat.zero_le _, rfl, ?_, ?_, ?_, ?_, Kp.refl σ⟩; any_goals simp (disch := first | decide | (try simp only [zz, hz]) <;> omega | fail) only [go_sem, hz, a0, a1] <;> rfl))
  rintro m B σ1 ⟨i, hi, rfl, hz, b0, b1, b5, kp⟩
  by_cases hlt : i < ps.length
  · have c1 : decide ((i : Int) < (ps.length : Int)) = true := by simp [hlt]
    obtain ⟨ba, o, c, cs, x, rfl, hrow, hel, htk, hx, hxl⟩ := rd_el h sz_48 hlt
    obtain ⟨ba', o', c', cs', x', rfl, hrow', hel', htk', hx', hxl'⟩ := rd_el h' sz_48 hlt
    have hr1 := hrow _ kp
    have hr2 := hrow' _ kp
    obtain ⟨k, vi, t, a, q, kids, on, e, hq, hk, ho⟩ := hs _ (List.getElem_mem hlt)
    rw [e] at hx hx'
    obtain ⟨l, rfl, _, _, rfl, rfl, _, _, rfl, rfl, _, _, rfl, rfl, _, _, rfl, rfl, v1, _, rfl, h1, v2, _, rfl, h2, v3, _, rfl, h3, rfl⟩ := rd_agg.1 hx
    obtain ⟨l', rfl, _, _, rfl, rfl, _, _, rfl, rfl, _, _, rfl, rfl, _, _, rfl, rfl, u1, _, rfl, j1, u2, _, rfl, j2, u3, _, rfl, j3, rfl⟩ := rd_agg.1 hx'
    simp only [cellsL] at htk htk' hxl hxl'
    obtain ⟨x1, y1, z1, rfl⟩ := rd_shape h1
    obtain ⟨x2, y2, z2, rfl⟩ := rd_shape h2
    obtain ⟨x3, y3, z3, rfl⟩ := rd_shape h3
    obtain ⟨x4, y4, z4, rfl⟩ := rd_shape j1
    obtain ⟨x5, y5, z5, rfl⟩ := rd_shape j2
    obtain ⟨x6, y6, z6, rfl⟩ := rd_shape j3
    have q2 : (k != k) = false := by simp
    have q3 : (vi != vi) = false := by simp
    have kpa : ∀ B1 B2 : Blk, ∀ b1 b2, Kp σ1 ((((σ1.push B1).push B2).set σ1.next b1).set (σ1.next + 1) b2) := fun _ _ _ _ => ((((Kp.refl σ1).push _).push _).set (Nat.le_refl _) _).set (by omega) _
    have hn1 : σ.next ≤ σ1.next := kp.next
    have hp1 : ∀ B1, ∀ q, rowOf (σ1.push B1) ⟨ba, q, none⟩ = some cs := fun B1 => hrow _ (kp.push B1)
    have hp2 : ∀ B1 B2, ∀ q, rowOf ((σ1.push B1).push B2) ⟨ba, q, none⟩ = some cs := fun B1 B2 => hrow _ ((kp.push B1).push B2)
    have hp3 : ∀ B1, ∀ q, rowOf (σ1.push B1) ⟨ba', q, none⟩ = some cs' := fun B1 => hrow' _ (kp.push B1)
    have hp4 : ∀ B1 B2, ∀ q, rowOf ((σ1.push B1).push B2) ⟨ba', q, none⟩ = some cs' := fun B1 B2 => hrow' _ ((kp.push B1).push B2)
    have hp5 : ∀ B1 B2 B3, ∀ q, rowOf (((σ1.push B1).push B2).set σ1.next B3) ⟨ba', q, none⟩ = some cs' := fun B1 B2 B3 => hrow' _ (((kp.push B1).push B2).set hn1 _)
    repeat (first | apply s_R | apply o_n | ((first | apply o_p | (refine' o_g rfl rfl ?_ ?_; rotate_left) | apply w_c); (focus simp (disch := first | decide | (try simp only [zz, hz]) <;> omega | fail) only [go_sem, hz, b0, b1, b5, c1, l1] <;> rfl); with_reducible first | apply o_i | apply g_1 | apply g_2 | apply g_3 | apply g_4 | apply c_1 | apply c_2) | apply r_E | apply b_k | apply s_k | apply s_q)
    refine W_regDE mixed (by kernel_rfl) (floatFit_by (i := 9) (d := 7) (by kernel_rfl) rfl rfl (by simp only [put_size, hz]; decide)) ?_
    repeat (apply v_x; (focus simp (disch := first | decide | (try simp only [zz, hz]) <;> omega | fail) only [go_sem, hz, b0, b1, b5, hel, hel', ↓hr1, ↓hr2, htk, htk', hxl, hxl'] <;> rfl); first | refine vX_n ?_ | refine vX_l ?_ | refine vX_e ?_)
    refine V_nil ?_; refine And.intro (owes_by (L := [(3, 0), (3, 9), (3, 10), (7, 0), (7, 9), (7, 10), (7, 11)]) ?_ ?_) ?_; rotate_left 2; (try simp only [Then, Out, JumpL]); rotate_right 2; focus (kernel_rfl)
    · (repeat (refine owe_cons (Owed_op rfl rfl rfl rfl rfl (by simp (disch := first | decide | (try simp only [zz, hz]) <;> omega | fail) only [go_sem, hz, b0, b1, b5, hel, hel', ↓hr1, ↓hr2, ↓hp1, ↓hp2, ↓hp3, ↓hp4, ↓hp5, htk, htk', hxl, hxl'] <;> rfl)) ?_)); exact owe_nil
    repeat (first | apply s_R | apply o_n | ((first | apply o_p | (refine' o_g rfl rfl ?_ ?_; rotate_left) | apply w_c); (focus simp (disch := first | decide | (try simp only [zz, hz]) <;> omega | fail) only [go_sem, hz, q2, q3] <;> rfl); with_reducible first | apply o_i | apply g_1 | apply g_2 | apply g_3 | apply g_4 | apply c_1 | apply c_2) | apply r_E | apply b_k | apply s_k | apply s_q)
    have kq := kpa ⟨1, 48, 0, [.int .i64 0, .string ⟨#[]⟩, .bool false, .string ⟨#[]⟩, .slice none 0 0, .slice none 0 0, .slice none 0 0]⟩ ⟨1, 48, 0, [.int .i64 0, .string ⟨#[]⟩, .bool false, .string ⟨#[]⟩, .slice none 0 0, .slice none 0 0, .slice none 0 0]⟩ ⟨1, 48, 0, [.int .i64 k, .string t, .bool vi, .string a, .slice x1 y1 z1, .slice x2 y2 z2, .slice x3 y3 z3]⟩ ⟨1, 48, 0, [.int .i64 k, .string t, .bool vi, .string a, .slice x4 y4 z4, .slice x5 y5 z5, .slice x6 y6 z6]⟩
    obtain ⟨τ0, hτ⟩ : ∃ τ, τ = (((σ1.push ⟨1, 48, 0, [.int .i64 0, .string ⟨#[]⟩, .bool false, .string ⟨#[]⟩, .slice none 0 0, .slice none 0 0, .slice none 0 0]⟩).push ⟨1, 48, 0, [.int .i64 0, .string ⟨#[]⟩, .bool false, .string ⟨#[]⟩, .slice none 0 0, .slice none 0 0, .slice none 0 0]⟩).set σ1.next ⟨1, 48, 0, [.int .i64 k, .string t, .bool vi, .string a, .slice x1 y1 z1, .slice x2 y2 z2, .slice x3 y3 z3]⟩).set (σ1.next + 1) ⟨1, 48, 0, [.int .i64 k, .string t, .bool vi, .string a, .slice x4 y4 z4, .slice x5 y5 z5, .slice x6 y6 z6]⟩ := ⟨_, rfl⟩
    have nx0 : τ0.next = σ1.next + 1 + 1 := by rw [hτ]; rfl
    have gA1 : τ0.get σ1.next = ⟨1, 48, 0, [.int .i64 k, .string t, .bool vi, .string a, .slice x1 y1 z1, .slice x2 y2 z2, .slice x3 y3 z3]⟩ := by rw [hτ]; exact by simp (disch := first | decide | (try simp only [zz, hz]) <;> omega | fail) only [go_sem, hz] <;> rfl
    have gB1 : τ0.get (σ1.next + 1) = ⟨1, 48, 0, [.int .i64 k, .string t, .bool vi, .string a, .slice x4 y4 z4, .slice x5 y5 z5, .slice x6 y6 z6]⟩ := by rw [hτ]; exact by simp (disch := first | decide | (try simp only [zz, hz]) <;> omega | fail) only [go_sem, hz] <;> rfl
    rw [← hτ] at kq ⊢
    clear hτ
    have kp2 := kp.trans kq
    refine O_call (by simp (disch := first | decide | (try simp only [zz, hz]) <;> omega | fail) only [go_sem, hz] <;> rfl) ?_
    refine C.mono (hq _ _ _ (h1.kp kp2) (j1.kp kp2)) ?_
    rintro _ σ2 ⟨rfl, r2⟩
    replace kp2 := kp2.trans r2
    have nx2 := r2.next
    have gA2 : σ2.get σ1.next = ⟨1, 48, 0, [.int .i64 k, .string t, .bool vi, .string a, .slice x1 y1 z1, .slice x2 y2 z2, .slice x3 y3 z3]⟩ := (r2.get _ (by omega)).trans gA1
    have gB2 : σ2.get (σ1.next + 1) = ⟨1, 48, 0, [.int .i64 k, .string t, .bool vi, .string a, .slice x4 y4 z4, .slice x5 y5 z5, .slice x6 y6 z6]⟩ := (r2.get _ (by omega)).trans gB1
    repeat (first | apply s_R | apply o_n | ((first | apply o_p | (refine' o_g rfl rfl ?_ ?_; rotate_left) | apply w_c); (focus simp (disch := first | decide | (try simp only [zz, hz]) <;> omega | fail) only [go_sem, hz, gA2, gB2] <;> rfl); with_reducible first | apply o_i | apply g_1 | apply g_2 | apply g_3 | apply g_4 | apply c_1 | apply c_2) | apply r_E | apply b_k | apply s_k | apply s_q)
    refine O_call (by simp (disch := first | decide | (try simp only [zz, hz]) <;> omega | fail) only [go_sem, hz] <;> rfl) ?_
    refine C.mono (hk _ _ _ (h2.kp kp2) (j2.kp kp2)) ?_
    rintro _ σ3 ⟨rfl, r3⟩
    replace kp2 := kp2.trans r3
    have nx3 := r3.next
    have gA3 : σ3.get σ1.next = ⟨1, 48, 0, [.int .i64 k, .string t, .bool vi, .string a, .slice x1 y1 z1, .slice x2 y2 z2, .slice x3 y3 z3]⟩ := (r3.get _ (by omega)).trans gA2
    have gB3 : σ3.get (σ1.next + 1) = ⟨1, 48, 0, [.int .i64 k, .string t, .bool vi, .string a, .slice x4 y4 z4, .slice x5 y5 z5, .slice x6 y6 z6]⟩ := (r3.get _ (by omega)).trans gB2
    repeat (first | apply s_R | apply o_n | ((first | apply o_p | (refine' o_g rfl rfl ?_ ?_; rotate_left) | apply w_c); (focus simp (disch := first | decide | (try simp only [zz, hz]) <;> omega | fail) only [go_sem, hz, gA3, gB3] <;> rfl); with_reducible first | apply o_i | apply g_1 | apply g_2 | apply g_3 | apply g_4 | apply c_1 | apply c_2) | apply r_E | apply b_k | apply s_k | apply s_q)
    refine O_call (by simp (disch := first | decide | (try simp only [zz, hz]) <;> omega | fail) only [go_sem, hz] <;> rfl) ?_
    refine C.mono (ho _ _ _ (h3.kp kp2) (j3.kp kp2)) ?_
    rintro _ σ4 ⟨rfl, r4⟩
    replace kp2 := kp2.trans r4
    have nx4 := r4.next
    have gA4 : σ4.get σ1.next = ⟨1, 48, 0, [.int .i64 k, .string t, .bool vi, .string a, .slice x1 y1 z1, .slice x2 y2 z2, .slice x3 y3 z3]⟩ := (r4.get _ (by omega)).trans gA3
    have gB4 : σ4.get (σ1.next + 1) = ⟨1, 48, 0, [.int .i64 k, .string t, .bool vi, .string a, .slice x4 y4 z4, .slice x5 y5 z5, .slice x6 y6 z6]⟩ := (r4.get _ (by omega)).trans gB3
    repeat (first | apply s_R | apply o_n | ((first | apply o_p | (refine' o_g rfl rfl ?_ ?_; rotate_left) | apply w_c); (focus simp (disch := first | decide | (try simp only [zz, hz]) <;> omega | fail) only [go_sem, hz, gA4, gB4] <;> rfl); with_reducible first | apply o_i | apply g_1 | apply g_2 | apply g_3 | apply g_4 | apply c_1 | apply c_2) | apply r_E | apply b_k | apply s_k | apply s_q)
    have hadd : fastB .add (.int .i64 (i : Int)) (.int .i64 1) = some (.int .i64 ((i + 1 : Nat) : Int)) := by rw [bin_addI (by omega) (by omega)]; rfl
    repeat (first | apply s_R | apply o_n | ((first | apply o_p | (refine' o_g rfl rfl ?_ ?_; rotate_left) | apply w_c); (focus simp (disch := first | decide | (try simp only [zz, hz]) <;> omega | fail) only [go_sem, hz, b0, b1, b5, hadd] <;> rfl); with_reducible first | apply o_i | apply g_1 | apply g_2 | apply g_3 | apply g_4 | apply c_1 | apply c_2) | apply r_E | apply b_k | apply s_k | apply s_q)
    exact (by refine' ⟨ps.length - (i + 1), by omega, i + 1, hlt, rfl, ?_, ?_, ?_, ?_, kp2⟩; any_goals simp (disch := first | decide | (try simp only [zz, hz]) <;> omega | fail) only [go_sem, hz, b0, b1] <;> rfl)
  · have c1 : decide ((i : Int) < (ps.length : Int)) = false := by simp [hlt]
    repeat (first | apply s_R | apply o_n | ((first | apply o_p | (refine' o_g rfl rfl ?_ ?_; rotate_left) | apply w_c); (focus simp (disch := first | decide | (try simp only [zz, hz]) <;> omega | fail) only [go_sem, hz, b0, b1, b5, c1, l1] <;> rfl); with_reducible first | apply o_i | apply g_1 | apply g_2 | apply g_3 | apply g_4 | apply c_1 | apply c_2) | apply r_E | apply b_k | apply s_k | apply s_q)
    refine W_exit ?_; simp only [Then, Out, JumpL, reduceIte, Nat.reduceEqDiff]
    repeat (first | apply s_R | apply o_n | ((first | apply o_p | (refine' o_g rfl rfl ?_ ?_; rotate_left) | apply w_c); (focus simp (disch := first | decide | (try simp only [zz, hz]) <;> omega | fail) only [go_sem, hz] <;> rfl); with_reducible first | apply o_i | apply g_1 | apply g_2 | apply g_3 | apply g_4 | apply c_1 | apply c_2) | apply r_E | apply b_k | apply s_k | apply s_q)
    refine W_ret ?_; (try simp only [Then, Out, Jump, JumpL]); refine ret_mk (by simp (disch := first | decide | (try simp only [zz, hz]) <;> omega | fail) only [go_sem, hz] <;> rfl) ?_; (try simp only [resultA])
    exact ⟨by first | rfl | trivial, kp⟩
theorem same_all : ∀ n : Nat, (∀ p, wf n 0 p → SameX 30 p) ∧ (∀ p, wf n 1 p → SameX 31 p) ∧ (∀ ps, AllL (wf n 0) ps → SameC 14 6 ps) ∧ (∀ ps, AllL (wf n 1) ps → SameC 15 10 ps) ∧ (∀ ps, AllL (wf n 2) ps → SameC 58 7 ps)
  | 0 => ⟨fun _ h => h.elim, fun _ h => h.elim, fun ps h => sameEs_c (by have := h.1; omega) (fun p hp => (h.2 p hp).elim) (fun p hp => (h.2 p hp).elim), fun ps h => sameQs_c (by have := h.1; omega) (fun p hp => (h.2 p hp).elim) (fun p hp => (h.2 p hp).elim), fun ps h => sameFs_c (by have := h.1; omega) (fun p hp => (h.2 p hp).elim)⟩
  | n + 1 => by
    obtain ⟨iE, iQ, iEs, iQs, iFs⟩ := same_all n
    have hE : ∀ p, wf (n + 1) 0 p → SameX 30 p := by
      rintro p ⟨k, m, s, t, kids, qs, rfl, h1, h2⟩
      exact fun σ v v' h h' => sameE_c (iEs _ h1) (iQs _ h2) σ v v' h h'
    have hX : ∀ e, wf n 0 e → ∃ k m s t kids qs, e = mkE k m s t kids qs ∧ SameX 30 (mkE k m s t kids qs) := by
      intro e he
      have := iE e he
      cases n with
      | zero => exact he.elim
      | succ n =>
        obtain ⟨k, m, s, t, kids, qs, rfl, _⟩ := he
        exact ⟨k, m, s, t, kids, qs, rfl, this⟩
    have hQ : ∀ p, wf (n + 1) 1 p → SameX 31 p := by
      rintro p ⟨k, d, m, items, froms, wh, gr, ha, or, kids, rfl, h1, h2, h3, h4, h5, h6, h7⟩
      refine sameQ_c (fun x hx => ?_) (by have := h1.1; omega) (fun x hx => ?_) (by have := h6.1; omega) (iFs _ h2) (iEs _ h3) (iEs _ h4) (iEs _ h5) (iQs _ h7)
      · obtain ⟨e, s, rfl, he⟩ := h1.2 x hx
        obtain ⟨k, m, s', t, kids, qs, rfl, hs⟩ := hX e he
        exact ⟨k, m, s', t, kids, qs, s, rfl, hs⟩
      · obtain ⟨e, s, rfl, he⟩ := h6.2 x hx
        obtain ⟨k, m, s', t, kids, qs, rfl, hs⟩ := hX e he
        exact ⟨k, m, s', t, kids, qs, s, rfl, hs⟩
    refine ⟨hE, hQ, fun ps h => sameEs_c (by have := h.1; omega) (fun p hp => hE p (h.2 p hp)) (fun p hp => ?_), fun ps h => sameQs_c (by have := h.1; omega) (fun p hp => hQ p (h.2 p hp)) (fun p hp => ?_), fun ps h => sameFs_c (by have := h.1; omega) (fun p hp => ?_)⟩
    · obtain ⟨k, m, s, t, kids, qs, rfl, _⟩ := h.2 p hp
      exact ⟨k, m, s, t, kids, qs, rfl⟩
    · obtain ⟨k, d, m, items, froms, wh, gr, ha, or, kids, rfl, _⟩ := h.2 p hp
      exact ⟨k, d, m, items, froms, wh, gr, ha, or, kids, rfl⟩
    · obtain ⟨k, v, t, a, q, kids, on, rfl, h1, h2, h3⟩ := h.2 p hp
      exact ⟨k, v, t, a, q, kids, on, rfl, iQs _ h1, iFs _ h2, iEs _ h3⟩
end Go.Proofs.YtckidlbmoalomaaGreatDoor
