/- The program's reader: what looks at tokens. The program's reader: names, numbers, what is taken and wanted. The program's reader: what stands one deeper. Readers leave no more tokens than there were. -/
import Derived.Test.YtckidlbmoalomaaGreatDoorJ07


namespace Go.Proofs.YtckidlbmoalomaaGreatDoor
open Go.RowKit

theorem elem0 {e n : Nat} {a : Addr} {len : Nat} {P : Program} (hn : szOf P e = some n) (h : 0 < len) : elemAtA P e a len 0 = some (.pointer (some (a.add 0))) := by
  have : ((0 : Int) ≤ 0 ∧ (0 : Int) < (len : Int)) := ⟨Int.le_refl _, by omega⟩
  simp only [elemAtA, hn, this, and_self, if_true]
  simp
theorem elem_i {e n : Nat} {a : Addr} {len j : Nat} {P : Program} (hn : szOf P e = some n) (h : j < len) : elemAtA P e a len (j : Int) = some (.pointer (some (a.add (j * n)))) := by
  have : ((0 : Int) ≤ (j : Int) ∧ (j : Int) < (len : Int)) := ⟨by omega, by omega⟩
  simp only [elemAtA, hn, this, and_self, if_true]
  simp
theorem tok_at {T : List Tk} {i : Nat} {t : Tk} (h : T[i]? = some t) : ((flatT T).drop (4 * i)).take 4 = tkCells t := by
  rw [flatT_drop]
  obtain ⟨hi, rfl⟩ := List.getElem?_eq_some_iff.1 h
  rw [List.drop_eq_getElem_cons hi]
  rfl
theorem tok_0 {T : List Tk} {i : Nat} {t : Tk} (h : T[i]? = some t) : (flatT T)[4 * i]? = some (.int .i64 t.1) := by
  have := tok_at h
  have e : (((flatT T).drop (4 * i)).take 4)[0]? = some (.int .i64 t.1) := by rw [this]; rfl
  simpa using e
theorem tok_1 {T : List Tk} {i : Nat} {t : Tk} (h : T[i]? = some t) : (flatT T)[4 * i + 1]? = some (.string t.2.1) := by
  have := tok_at h
  have e : (((flatT T).drop (4 * i)).take 4)[1]? = some (.string t.2.1) := by rw [this]; rfl
  simpa using e
theorem tok_2 {T : List Tk} {i : Nat} {t : Tk} (h : T[i]? = some t) : (flatT T)[4 * i + 2]? = some (.int .i64 t.2.2.1) := by
  have := tok_at h
  have e : (((flatT T).drop (4 * i)).take 4)[2]? = some (.int .i64 t.2.2.1) := by rw [this]; rfl
  simpa using e
theorem tok_3 {T : List Tk} {i : Nat} {t : Tk} (h : T[i]? = some t) : (flatT T)[4 * i + 3]? = some (.int .i64 t.2.2.2) := by
  have := tok_at h
  have e : (((flatT T).drop (4 * i)).take 4)[3]? = some (.int .i64 t.2.2.2) := by rw [this]; rfl
  simpa using e
set_option maxRecDepth 10000
set_option linter.unusedSimpArgs false
set_option linter.unusedVariables false
theorem sees_c {σ : AW} {r b i : Nat} {T : List Tk} {d pl er : Int} (h : Rdr σ r b T i d pl er) (x : ByteArray) {t : Tk} (ht : T[i]? = some t) :
    C Tryz.prog 64 [.pointer (some ⟨r, 0, none⟩), .string x] σ fun v σ' => v = .bool (decide (t.2.1 = x) && (t.1 == 1 || t.1 == 4)) ∧ Kp σ σ' := by
  have hr := h.get
  have hb := h.toks
  have hi := h.li
  have e0 : elemAtA Tryz.prog 72 ⟨b, 4 * i, none⟩ (T.length - i) 0 = some (.pointer (some ⟨b, 4 * i, none⟩)) := elem0 sz_72 (by omega)
  have hd := tok_at ht
  refine C_enter rfl Tryz.func64 rfl Tryz.ntmps64 Tryz.results64 (Nat.le_of_ble_eq_true rfl) ?_; intro A hz hA; have a0 := hA 0 _ rfl; have a1 := hA 1 _ rfl; clear hA
  cases c1 : decide (t.2.1 = x) <;> cases c2 : (t.1 == 1)
  all_goals
    repeat (first | apply s_R | apply o_n | ((first | apply o_p | (refine' o_g rfl rfl ?_ ?_; rotate_left) | apply w_c); (focus simp (disch := first | decide | (try simp only [zz, hz]) <;> omega | fail) only [go_sem, hz, a0, a1, hr, hb, hd, e0, tkCells, c1, c2] <;> rfl); with_reducible first | apply o_i | apply g_1 | apply g_2 | apply g_3 | apply g_4 | apply c_1 | apply c_2) | apply r_E | apply b_k | apply s_k | apply s_q)
    refine W_ret ?_; (try simp only [Then, Out, Jump, JumpL]); refine ret_mk (by simp (disch := first | decide | (try simp only [zz, hz]) <;> omega | fail) only [go_sem, hz] <;> rfl) ?_; (try simp only [resultA])
    exact ⟨by simp, ((Kp.refl σ).push _).set (Nat.le_refl _) _⟩
theorem slice_k {σ : AW} {b i k : Nat} {T : List Tk} (hb : σ.get b = ⟨2, 72, 4, flatT T⟩) (h : i + k < T.length) {n : Int} (hn : n = k) :
    sliceA Tryz.prog σ 65 (.slice (some ⟨b, 4 * i, none⟩) (T.length - i) (2 * i + 1)) (some (.int .i64 n)) none none = some (.slice (some ⟨b, 4 * (i + k), none⟩) (T.length - (i + k)) (2 * (i + k) + 1)) := by
  subst hn
  have e1 : (2 * i + 1) / 2 = i := by omega
  have e2 : (2 * i + 1) % 2 = 1 := by omega
  have e3 : (flatT T).length / 4 = T.length := by rw [flatT_length]; omega
  have hroom : roomA Tryz.prog σ 72 ⟨b, 4 * i, none⟩ (2 * i + 1) = some (T.length - i) := by
    simp only [roomA, e2, hb, sz_72, e1, e3]
    simp
    omega
  have hbd : boundsA (T.length - i) (T.length - i) (some (.int .i64 (k : Int))) none none = some (k, T.length - i, T.length - i) := by
    have hb1 : boundA (.int .i64 (k : Int)) (T.length - i) = some k := by
      unfold boundA
      simp
      omega
    unfold boundsA
    simp only [hb1]
  simp only [sliceA, us_65, sz_72, hroom, hbd, e2]
  by_cases hk : k = 0
  · subst hk
    simp
  simp only [show ¬ (1 = 0 ∨ Option.isSome (none : Option Value) = true) by simp, if_false, hk, show k < T.length - i by omega, if_true, add_none]
  rw [show 4 * i + k * 4 = 4 * (i + k) by omega, show T.length - i - k = T.length - (i + k) by omega, show 2 * i + 1 + 2 * k = 2 * (i + k) + 1 by omega]
theorem takeKind_c {σ : AW} {r b : Nat} {T : List Tk} {d : Int} {s : Sy} (h : RdS σ r b T d s) {k : Int} (hk : k ≠ 0) :
    C Tryz.prog 56 [.pointer (some ⟨r, 0, none⟩), .int .i64 k] σ fun v σ' => v = .bool (takeKindS k s).1 ∧ RdS σ' r b T d (takeKindS k s).2 ∧ Gr r σ σ' := by
  obtain ⟨i, h, hl, ht⟩ := h.head
  have hr := h.get
  have hb := h.toks
  have hi := h.li
  have e0 : elemAtA Tryz.prog 72 ⟨b, 4 * i, none⟩ (T.length - i) 0 = some (.pointer (some ⟨b, 4 * i, none⟩)) := elem0 sz_72 (by omega)
  have hd := tok_0 ht
  refine C_enter rfl Tryz.func56 rfl Tryz.ntmps56 Tryz.results56 (Nat.le_of_ble_eq_true rfl) ?_; intro A hz hA; have a0 := hA 0 _ rfl; have a1 := hA 1 _ rfl; clear hA
  by_cases hc : s.head.1 = k
  · have c1 : (s.head.1 != k) = false := by simp [hc]
    have hlt : i + 1 < T.length := by
      apply Classical.byContradiction
      intro hn
      have e : i = T.length - 1 := by omega
      rw [e] at ht
      have := h.last _ ht
      rw [hc] at this
      exact hk this
    have hs := slice_k (σ := σ) hb hlt (n := 1) rfl
    repeat (first | apply s_R | apply o_n | ((first | apply o_p | (refine' o_g rfl rfl ?_ ?_; rotate_left) | apply w_c); (focus simp (disch := first | decide | (try simp only [zz, hz]) <;> omega | fail) only [go_sem, hz, a0, a1, hr, hb, hd, e0, c1, hs] <;> rfl); with_reducible first | apply o_i | apply g_1 | apply g_2 | apply g_3 | apply g_4 | apply c_1 | apply c_2) | apply r_E | apply b_k | apply s_k | apply s_q)

    refine W_ret ?_; (try simp only [Then, Out, Jump, JumpL]); refine ret_mk (by simp (disch := first | decide | (try simp only [zz, hz]) <;> omega | fail) only [go_sem, hz] <;> rfl) ?_; (try simp only [resultA])
    unfold takeKindS
    rw [if_pos hc]
    refine ⟨rfl, ⟨i + 1, h.gr ((Gr.refl r σ).set (.inr rfl) _) hlt (by rw [set_eq]), by show s.left.tail = _; rw [hl]; simp⟩, (Gr.refl r σ).set (.inr rfl) _⟩
  · have c1 : (s.head.1 != k) = true := by simp [hc]
    repeat (first | apply s_R | apply o_n | ((first | apply o_p | (refine' o_g rfl rfl ?_ ?_; rotate_left) | apply w_c); (focus simp (disch := first | decide | (try simp only [zz, hz]) <;> omega | fail) only [go_sem, hz, a0, a1, hr, hb, hd, e0, c1] <;> rfl); with_reducible first | apply o_i | apply g_1 | apply g_2 | apply g_3 | apply g_4 | apply c_1 | apply c_2) | apply r_E | apply b_k | apply s_k | apply s_q)
    refine W_ret ?_; (try simp only [Then, Out, Jump, JumpL]); refine ret_mk (by simp (disch := first | decide | (try simp only [zz, hz]) <;> omega | fail) only [go_sem, hz] <;> rfl) ?_; (try simp only [resultA])
    unfold takeKindS
    rw [if_neg hc]
    exact ⟨rfl, ⟨i, h, hl⟩, Gr.refl r σ⟩
theorem refuse_c {σ : AW} {r b : Nat} {T : List Tk} {d : Int} {s : Sy} (h : RdS σ r b T d s) (k : Int) :
    C Tryz.prog 25 [.pointer (some ⟨r, 0, none⟩), .int .i64 k] σ fun _ σ' => RdS σ' r b T d (refuseS k s).2 ∧ Gr r σ σ' := by
  obtain ⟨i, h, hl, ht⟩ := h.head
  have hr := h.get
  have hb := h.toks
  have hi := h.li
  have hne : b ≠ r := h.ne
  have hfew := h.few
  have e0 : elemAtA Tryz.prog 72 ⟨b, 4 * i, none⟩ (T.length - i) 0 = some (.pointer (some ⟨b, 4 * i, none⟩)) := elem0 sz_72 (by omega)
  have hd := tok_3 ht
  refine C_enter rfl Tryz.func25 rfl Tryz.ntmps25 Tryz.results25 (Nat.le_of_ble_eq_true rfl) ?_; intro A hz hA; have a0 := hA 0 _ rfl; have a1 := hA 1 _ rfl; clear hA
  unfold refuseS
  by_cases hc : s.err = 0
  · have c1 : (s.err != 0) = false := by simp [hc]
    rw [if_pos hc]
    have hsub : fastB .sub (.int .i64 (T.length - i : Nat)) (.int .i64 1) = some (.int .i64 (T.length - i - 1 : Nat)) := by
      rw [bin_subI (by omega) (by omega)]
      congr 2
      omega
    repeat (first | apply s_R | apply o_n | ((first | apply o_p | (refine' o_g rfl rfl ?_ ?_; rotate_left) | apply w_c); (focus simp (disch := first | decide | (try simp only [zz, hz]) <;> omega | fail) only [go_sem, hz, a0, a1, hr, hb, hd, e0, c1] <;> rfl); with_reducible first | apply o_i | apply g_1 | apply g_2 | apply g_3 | apply g_4 | apply c_1 | apply c_2) | apply r_E | apply b_k | apply s_k | apply s_q)
    refine W_regDE mixed (by kernel_rfl) (by kernel_rfl) ?_
    have hs : ∀ B1 B2 : Blk, sliceA Tryz.prog ((σ.set r B1).set r B2) 65 (.slice (some ⟨b, 4 * i, none⟩) (T.length - i) (2 * i + 1)) (some (.int .i64 (T.length - i - 1 : Nat))) none none = some (.slice (some ⟨b, 4 * (i + (T.length - i - 1)), none⟩) (T.length - (i + (T.length - i - 1))) (2 * (i + (T.length - i - 1)) + 1)) := fun B1 B2 => slice_k (by rw [set_ne hne, set_ne hne]; exact hb) (by omega) rfl
    repeat (apply v_x; (focus simp (disch := first | decide | (try simp only [zz, hz]) <;> omega | fail) only [go_sem, hz, a0, a1, hr, hb, hsub, hs] <;> rfl); first | refine vX_n ?_ | refine vX_l ?_ | refine vX_e ?_)
    refine V_nil ?_; refine And.intro (owes_by (L := [(4, 0), (8, 0), (9, 0), (11, 0)]) ?_ ?_) ?_; rotate_left 2; (try simp only [Then, Out, JumpL]); rotate_right 2; focus (kernel_rfl)
    · (repeat (refine owe_cons (Owed_op rfl rfl rfl rfl rfl (by simp (disch := first | decide | (try simp only [zz, hz]) <;> omega | fail) only [go_sem, hz, a0, a1, hr, hb, hsub, hs, stOf] <;> rfl)) ?_)); exact owe_nil
    refine end_mk (by simp (disch := first | decide | (try simp only [zz, hz]) <;> omega | fail) only [go_sem, hz] <;> rfl) ?_; (try simp only [resultA])
    refine ⟨⟨i + (T.length - i - 1), h.gr ((((Gr.refl r σ).set (.inr rfl) _).set (.inr rfl) _).set (.inr rfl) _) (by omega) (by rw [set_eq]), ?_⟩, (((Gr.refl r σ).set (.inr rfl) _).set (.inr rfl) _).set (.inr rfl) _⟩
    show s.left.drop (s.left.length - 1) = _
    rw [hl, List.drop_drop, List.length_drop]
  · have c1 : (s.err != 0) = true := by simp [hc]
    rw [if_neg hc]
    repeat (first | apply s_R | apply o_n | ((first | apply o_p | (refine' o_g rfl rfl ?_ ?_; rotate_left) | apply w_c); (focus simp (disch := first | decide | (try simp only [zz, hz]) <;> omega | fail) only [go_sem, hz, a0, a1, hr, hb, hd, e0, c1] <;> rfl); with_reducible first | apply o_i | apply g_1 | apply g_2 | apply g_3 | apply g_4 | apply c_1 | apply c_2) | apply r_E | apply b_k | apply s_k | apply s_q)
    refine W_ret ?_; (try simp only [Then, Out, Jump, JumpL]); refine ret_mk (by simp (disch := first | decide | (try simp only [zz, hz]) <;> omega | fail) only [go_sem, hz] <;> rfl) ?_; (try simp only [resultA])
    exact ⟨⟨i, h, hl⟩, Gr.refl r σ⟩
theorem sees_s {σ : AW} {r b : Nat} {T : List Tk} {d : Int} {s : Sy} (h : RdS σ r b T d s) (x : ByteArray) :
    C Tryz.prog 64 [.pointer (some ⟨r, 0, none⟩), .string x] σ fun v σ' => v = .bool (seesB x s) ∧ Kp σ σ' := by
  obtain ⟨i, h, hl, ht⟩ := h.head
  exact sees_c h x ht
theorem seen_kind {x : ByteArray} {s : Sy} (h : seesB x s = true) : s.head.1 = 1 ∨ s.head.1 = 4 := by
  unfold seesB at h
  simp only [Bool.and_eq_true, Bool.or_eq_true, beq_iff_eq] at h
  exact h.2
theorem RdS.more {σ : AW} {r b i : Nat} {T : List Tk} {d pl er : Int} {s : Sy} (h : Rdr σ r b T i d pl er) (ht : T[i]? = some s.head) (hk : s.head.1 ≠ 0) : i + 1 < T.length := by
  apply Classical.byContradiction
  intro hn
  have := h.li
  have e : i = T.length - 1 := by omega
  rw [e] at ht
  exact hk (h.last _ ht)
theorem take_none {ws : List ByteArray} {j : Nat} {s : Sy} (h : j < ws.length) (hs : seesB ws[j] s = false) : takeAnyS (ws.drop j) s = takeAnyS (ws.drop (j + 1)) s := by
  rw [List.drop_eq_getElem_cons h]
  conv => lhs; unfold takeAnyS
  rw [if_neg (by simp [hs])]
theorem take_some {ws : List ByteArray} {j : Nat} {s : Sy} (h : j < ws.length) (hs : seesB ws[j] s = true) : takeAnyS (ws.drop j) s = (some ws[j], ⟨s.left.tail, s.pl, s.err⟩) := by
  rw [List.drop_eq_getElem_cons h]
  conv => lhs; unfold takeAnyS
  rw [if_pos hs]
def anyV (o : Option ByteArray) : Value := match o with
  | some x => .tuple #[.string x, .bool true]
  | none => .tuple #[.string ⟨#[]⟩, .bool false]
theorem takeAny_c {σ : AW} {r b : Nat} {T : List Tk} {d : Int} {s : Sy} (h : RdS σ r b T d s) {w c e z : Nat} {ws : List ByteArray} (hw : σ.get w = ⟨1, e, z, ws.map Value.string⟩) (hwn : w < σ.next) (hlen : ws.length ≤ 1000) :
    C Tryz.prog 63 [.pointer (some ⟨r, 0, none⟩), .slice (some ⟨w, 0, none⟩) ws.length c] σ fun v σ' => v = anyV (takeAnyS ws s).1 ∧ RdS σ' r b T d (takeAnyS ws s).2 ∧ Gr r σ σ' := by
  refine C_enter rfl Tryz.func63 rfl Tryz.ntmps63 Tryz.results63 (Nat.le_of_ble_eq_true rfl) ?_; intro A hz hA; have a0 := hA 0 _ rfl; have a1 := hA 1 _ rfl; clear hA
  repeat (first | apply s_R | apply o_n | ((first | apply o_p | (refine' o_g rfl rfl ?_ ?_; rotate_left) | apply w_c); (focus simp (disch := first | decide | (try simp only [zz, hz]) <;> omega | fail) only [go_sem, hz, a0, a1] <;> rfl); with_reducible first | apply o_i | apply g_1 | apply g_2 | apply g_3 | apply g_4 | apply c_1 | apply c_2) | apply r_E | apply b_k | apply s_k | apply s_q)
  refine W_loop (WL_inv (fun m B σ1 => ∃ j, j ≤ ws.length ∧ m = ws.length - j ∧ B.size = 27 ∧ B.get 0 = some (.pointer (some ⟨r, 0, none⟩)) ∧ B.get 8 = some (.slice (some ⟨w, 0, none⟩) ws.length c) ∧ B.get 9 = some (.int .i64 (ws.length : Int)) ∧ B.get 10 = some (.int .i64 (j : Int)) ∧ Kp σ σ1 ∧ takeAnyS ws s = takeAnyS (ws.drop j) s) ?_ (m := ws.length) ⟨0, Nat.zero_le _, rfl, ?_, ?_, ?_, ?_, ?_, Kp.refl σ, rfl⟩)
  · rintro m B σ1 ⟨j, hj, rfl, hz, b0, b8, b9, b10, hk, heq⟩
    have hs1 : RdS σ1 r b T d s := h.kp hk
    have hw1 : σ1.get w = ⟨1, e, z, ws.map Value.string⟩ := (hk.get w hwn).trans hw
    by_cases hlt : j < ws.length
    · have c1 : decide ((j : Int) < (ws.length : Int)) = true := by simp [hlt]
      have e1 : elemAtA Tryz.prog 9 ⟨w, 0, none⟩ ws.length (j : Int) = some (.pointer (some ⟨w, j, none⟩)) := by rw [elem_i sz_9 hlt, add_none]; simp
      have e2 : (ws.map Value.string)[j]? = some (.string ws[j]) := by simp [hlt]
      repeat (first | apply s_R | apply o_n | ((first | apply o_p | (refine' o_g rfl rfl ?_ ?_; rotate_left) | apply w_c); (focus simp (disch := first | decide | (try simp only [zz, hz]) <;> omega | fail) only [go_sem, hz, b0, b8, b9, b10, c1, e1, e2, hw1] <;> rfl); with_reducible first | apply o_i | apply g_1 | apply g_2 | apply g_3 | apply g_4 | apply c_1 | apply c_2) | apply r_E | apply b_k | apply s_k | apply s_q)
      refine O_call (by simp (disch := first | decide | (try simp only [zz, hz]) <;> omega | fail) only [go_sem, hz, b0, b8, b9, b10, c1, e1, e2, hw1] <;> rfl) ?_
      refine C.mono (sees_s hs1 _) ?_
      rintro _ σ2 ⟨rfl, hk2⟩
      replace hk2 := hk.trans hk2
      cases hsee : seesB ws[j] s with
      | true =>
        obtain ⟨i, hrd, hl, ht⟩ := (h.kp hk2).head
        have hr := hrd.get
        have hb := hrd.toks
        have hlt2 : i + 1 < T.length := RdS.more hrd ht (by rcases seen_kind hsee with e | e <;> rw [e] <;> decide)
        have hs := slice_k (σ := σ2) hb hlt2 (n := 1) rfl
        repeat (first | apply s_R | apply o_n | ((first | apply o_p | (refine' o_g rfl rfl ?_ ?_; rotate_left) | apply w_c); (focus simp (disch := first | decide | (try simp only [zz, hz]) <;> omega | fail) only [go_sem, hz, b0, b8, b9, b10, c1, e1, e2, hw1, hr, hs] <;> rfl); with_reducible first | apply o_i | apply g_1 | apply g_2 | apply g_3 | apply g_4 | apply c_1 | apply c_2) | apply r_E | apply b_k | apply s_k | apply s_q)
        refine W_ret ?_; (try simp only [Then, Out, Jump, JumpL]); refine ret_mk (by simp (disch := first | decide | (try simp only [zz, hz]) <;> omega | fail) only [go_sem, hz] <;> rfl) ?_; (try simp only [resultA])
        rw [heq, take_some hlt hsee]
        refine ⟨rfl, ⟨i + 1, hrd.gr ((Gr.refl r σ2).set (.inr rfl) _) hlt2 (by rw [set_eq]), by show s.left.tail = _; rw [hl]; simp⟩, (hk2.gr r).set (.inr rfl) _⟩
      | false =>
        have hadd : fastB .add (.int .i64 (j : Int)) (.int .i64 1) = some (.int .i64 ((j + 1 : Nat) : Int)) := by rw [bin_addI (by omega) (by omega)]; rfl
        repeat (first | apply s_R | apply o_n | ((first | apply o_p | (refine' o_g rfl rfl ?_ ?_; rotate_left) | apply w_c); (focus simp (disch := first | decide | (try simp only [zz, hz]) <;> omega | fail) only [go_sem, hz, b0, b8, b9, b10, c1, e1, e2, hw1, hadd] <;> rfl); with_reducible first | apply o_i | apply g_1 | apply g_2 | apply g_3 | apply g_4 | apply c_1 | apply c_2) | apply r_E | apply b_k | apply s_k | apply s_q)
        exact (by refine' ⟨ws.length - (j + 1), by omega, j + 1, by omega, rfl, ?_, ?_, ?_, ?_, ?_, hk2, by rw [heq, take_none hlt hsee]⟩; any_goals simp (disch := first | decide | (try simp only [zz, hz]) <;> omega | fail) only [go_sem, hz, b0, b8, b9] <;> rfl)
    · have c1 : decide ((j : Int) < (ws.length : Int)) = false := by simp [hlt]
      repeat (first | apply s_R | apply o_n | ((first | apply o_p | (refine' o_g rfl rfl ?_ ?_; rotate_left) | apply w_c); (focus simp (disch := first | decide | (try simp only [zz, hz]) <;> omega | fail) only [go_sem, hz, b0, b8, b9, b10, c1] <;> rfl); with_reducible first | apply o_i | apply g_1 | apply g_2 | apply g_3 | apply g_4 | apply c_1 | apply c_2) | apply r_E | apply b_k | apply s_k | apply s_q)
      refine W_exit ?_; simp only [Then, Out, JumpL, reduceIte, Nat.reduceEqDiff]
      repeat (first | apply s_R | apply o_n | ((first | apply o_p | (refine' o_g rfl rfl ?_ ?_; rotate_left) | apply w_c); (focus simp (disch := first | decide | (try simp only [zz, hz]) <;> omega | fail) only [go_sem, hz, b0, b8, b9, b10, c1] <;> rfl); with_reducible first | apply o_i | apply g_1 | apply g_2 | apply g_3 | apply g_4 | apply c_1 | apply c_2) | apply r_E | apply b_k | apply s_k | apply s_q)
      refine W_ret ?_; (try simp only [Then, Out, Jump, JumpL]); refine ret_mk (by simp (disch := first | decide | (try simp only [zz, hz]) <;> omega | fail) only [go_sem, hz] <;> rfl) ?_; (try simp only [resultA])
      have hj : j = ws.length := by omega
      rw [heq, hj, List.drop_length]
      exact ⟨rfl, hs1, hk.gr r⟩
  all_goals exact (by simp (disch := first | decide | (try simp only [zz, hz]) <;> omega | fail) only [go_sem, hz, a0, a1] <;> rfl)
end Go.Proofs.YtckidlbmoalomaaGreatDoor


namespace Go.Proofs.YtckidlbmoalomaaGreatDoor
open Go.RowKit
set_option maxRecDepth 10000
set_option linter.unusedSimpArgs false
set_option linter.unusedVariables false

section
variable {σ : AW} {r b : Nat} {T : List Tk} {d : Int} {s : Sy}
theorem take_c (h : RdS σ r b T d s) (x : ByteArray) :
    C Tryz.prog 50 [.pointer (some ⟨r, 0, none⟩), .string x] σ fun v σ' => v = .bool (takeS x s).1 ∧ RdS σ' r b T d (takeS x s).2 ∧ Gr r σ σ' := by
  have hlr := h.lr
  refine C_enter rfl Tryz.func50 rfl Tryz.ntmps50 Tryz.results50 (Nat.le_of_ble_eq_true rfl) ?_; intro A hz hA; have a0 := hA 0 _ rfl; have a1 := hA 1 _ rfl; clear hA
  repeat (first | apply s_R | apply o_n | ((first | apply o_p | (refine' o_g rfl rfl ?_ ?_; rotate_left) | apply w_c); (focus simp (disch := first | decide | (try simp only [zz, hz]) <;> omega | fail) only [go_sem, hz, a0, a1] <;> rfl); with_reducible first | apply o_i | apply g_1 | apply g_2 | apply g_3 | apply g_4 | apply c_1 | apply c_2) | apply r_E | apply b_k | apply s_k | apply s_q)
  refine O_call (by simp (disch := first | decide | (try simp only [zz, hz]) <;> omega | fail) only [go_sem, hz, a0, a1] <;> rfl) ?_
  refine C.mono (takeAny_c (ws := [x]) (h.kp ((Kp.refl σ).push _)) (by rw [push_eq]) (Nat.lt_succ_self _) (Nat.le_of_ble_eq_true rfl)) ?_
  rintro _ σ2 ⟨rfl, h2, g2⟩
  have e : takeAnyS [x] s = if seesB x s = true then (some x, ⟨s.left.tail, s.pl, s.err⟩) else (none, s) := by
    unfold takeAnyS takeAnyS
    rfl
  rw [e] at h2 ⊢
  unfold takeS
  have g := ((Kp.refl σ).push _).gr r |>.trans g2
  by_cases hs : seesB x s = true
  · rw [if_pos hs] at h2 ⊢
    rw [if_pos hs]
    simp only [anyV]
    repeat (first | apply s_R | apply o_n | ((first | apply o_p | (refine' o_g rfl rfl ?_ ?_; rotate_left) | apply w_c); (focus simp (disch := first | decide | (try simp only [zz, hz]) <;> omega | fail) only [go_sem, hz, a0, a1] <;> rfl); with_reducible first | apply o_i | apply g_1 | apply g_2 | apply g_3 | apply g_4 | apply c_1 | apply c_2) | apply r_E | apply b_k | apply s_k | apply s_q)
    refine W_ret ?_; (try simp only [Then, Out, Jump, JumpL]); refine ret_mk (by simp (disch := first | decide | (try simp only [zz, hz]) <;> omega | fail) only [go_sem, hz] <;> rfl) ?_; (try simp only [resultA])
    exact ⟨by first | rfl | trivial, h2, g⟩
  · rw [if_neg hs] at h2 ⊢
    rw [if_neg hs]
    simp only [anyV]
    repeat (first | apply s_R | apply o_n | ((first | apply o_p | (refine' o_g rfl rfl ?_ ?_; rotate_left) | apply w_c); (focus simp (disch := first | decide | (try simp only [zz, hz]) <;> omega | fail) only [go_sem, hz, a0, a1] <;> rfl); with_reducible first | apply o_i | apply g_1 | apply g_2 | apply g_3 | apply g_4 | apply c_1 | apply c_2) | apply r_E | apply b_k | apply s_k | apply s_q)
    refine W_ret ?_; (try simp only [Then, Out, Jump, JumpL]); refine ret_mk (by simp (disch := first | decide | (try simp only [zz, hz]) <;> omega | fail) only [go_sem, hz] <;> rfl) ?_; (try simp only [resultA])
    exact ⟨by first | rfl | trivial, h2, g⟩
theorem want_c (h : RdS σ r b T d s) (x : ByteArray) :
    C Tryz.prog 54 [.pointer (some ⟨r, 0, none⟩), .string x] σ fun _ σ' => RdS σ' r b T d (wantS x s).2 ∧ Gr r σ σ' := by
  refine C_enter rfl Tryz.func54 rfl Tryz.ntmps54 Tryz.results54 (Nat.le_of_ble_eq_true rfl) ?_; intro A hz hA; have a0 := hA 0 _ rfl; have a1 := hA 1 _ rfl; clear hA
  repeat (first | apply s_R | apply o_n | ((first | apply o_p | (refine' o_g rfl rfl ?_ ?_; rotate_left) | apply w_c); (focus simp (disch := first | decide | (try simp only [zz, hz]) <;> omega | fail) only [go_sem, hz, a0, a1] <;> rfl); with_reducible first | apply o_i | apply g_1 | apply g_2 | apply g_3 | apply g_4 | apply c_1 | apply c_2) | apply r_E | apply b_k | apply s_k | apply s_q)
  refine O_call (by simp (disch := first | decide | (try simp only [zz, hz]) <;> omega | fail) only [go_sem, hz, a0, a1] <;> rfl) ?_
  refine C.mono (take_c h x) ?_
  rintro _ σ1 ⟨rfl, h1, g1⟩
  have e : wantS x s = if (takeS x s).1 = true then ((), (takeS x s).2) else refuseS 10 (takeS x s).2 := by
    show (if (takeS x s).1 = true then (pure () : SM Unit) else refuseS 10) (takeS x s).2 = _
    split <;> rfl
  rw [e]
  cases ht : (takeS x s).1 with
  | true =>
    repeat (first | apply s_R | apply o_n | ((first | apply o_p | (refine' o_g rfl rfl ?_ ?_; rotate_left) | apply w_c); (focus simp (disch := first | decide | (try simp only [zz, hz]) <;> omega | fail) only [go_sem, hz, a0, a1] <;> rfl); with_reducible first | apply o_i | apply g_1 | apply g_2 | apply g_3 | apply g_4 | apply c_1 | apply c_2) | apply r_E | apply b_k | apply s_k | apply s_q)
    refine end_mk (by simp (disch := first | decide | (try simp only [zz, hz]) <;> omega | fail) only [go_sem, hz] <;> rfl) ?_; (try simp only [resultA])
    exact ⟨h1, g1⟩
  | false =>
    repeat (first | apply s_R | apply o_n | ((first | apply o_p | (refine' o_g rfl rfl ?_ ?_; rotate_left) | apply w_c); (focus simp (disch := first | decide | (try simp only [zz, hz]) <;> omega | fail) only [go_sem, hz, a0, a1] <;> rfl); with_reducible first | apply o_i | apply g_1 | apply g_2 | apply g_3 | apply g_4 | apply c_1 | apply c_2) | apply r_E | apply b_k | apply s_k | apply s_q)
    refine O_call (by simp (disch := first | decide | (try simp only [zz, hz]) <;> omega | fail) only [go_sem, hz, a0, a1] <;> rfl) ?_
    refine C.mono (refuse_c h1 10) ?_
    rintro _ σ2 ⟨h2, g2⟩
    repeat (first | apply s_R | apply o_n | ((first | apply o_p | (refine' o_g rfl rfl ?_ ?_; rotate_left) | apply w_c); (focus simp (disch := first | decide | (try simp only [zz, hz]) <;> omega | fail) only [go_sem, hz, a0, a1] <;> rfl); with_reducible first | apply o_i | apply g_1 | apply g_2 | apply g_3 | apply g_4 | apply c_1 | apply c_2) | apply r_E | apply b_k | apply s_k | apply s_q)
    refine end_mk (by simp (disch := first | decide | (try simp only [zz, hz]) <;> omega | fail) only [go_sem, hz] <;> rfl) ?_; (try simp only [resultA])
    exact ⟨h2, g1.trans g2⟩
theorem number_c (h : RdS σ r b T d s) :
    C Tryz.prog 76 [.pointer (some ⟨r, 0, none⟩)] σ fun v σ' => v = .int .i64 (numberS s).1 ∧ RdS σ' r b T d (numberS s).2 ∧ Gr r σ σ' := by
  obtain ⟨i, h1, hl, ht⟩ := h.head
  have hr := h1.get
  have hb := h1.toks
  have hi := h1.li
  have e0 : elemAtA Tryz.prog 72 ⟨b, 4 * i, none⟩ (T.length - i) 0 = some (.pointer (some ⟨b, 4 * i, none⟩)) := elem0 sz_72 (by omega)
  have hd := tok_2 ht
  refine C_enter rfl Tryz.func76 rfl Tryz.ntmps76 Tryz.results76 (Nat.le_of_ble_eq_true rfl) ?_; intro A hz hA; have a0 := hA 0 _ rfl; clear hA
  repeat (first | apply s_R | apply o_n | ((first | apply o_p | (refine' o_g rfl rfl ?_ ?_; rotate_left) | apply w_c); (focus simp (disch := first | decide | (try simp only [zz, hz]) <;> omega | fail) only [go_sem, hz, a0, hr, hb, hd, e0] <;> rfl); with_reducible first | apply o_i | apply g_1 | apply g_2 | apply g_3 | apply g_4 | apply c_1 | apply c_2) | apply r_E | apply b_k | apply s_k | apply s_q)
  refine O_call (by simp (disch := first | decide | (try simp only [zz, hz]) <;> omega | fail) only [go_sem, hz, a0, hr, hb, hd, e0] <;> rfl) ?_
  refine C.mono (takeKind_c h (k := 2) (by decide)) ?_
  rintro _ σ1 ⟨rfl, h1, g1⟩
  have e : numberS s = if (takeKindS 2 s).1 = true then (s.head.2.2.1, (takeKindS 2 s).2) else (0, (refuseS 10 (takeKindS 2 s).2).2) := by
    show (if (takeKindS 2 s).1 = true then (pure s.head.2.2.1 : SM Int) else (refuseS 10 >>= fun _ => pure 0)) (takeKindS 2 s).2 = _
    split <;> rfl
  rw [e]
  cases ht : (takeKindS 2 s).1 with
  | true =>
    repeat (first | apply s_R | apply o_n | ((first | apply o_p | (refine' o_g rfl rfl ?_ ?_; rotate_left) | apply w_c); (focus simp (disch := first | decide | (try simp only [zz, hz]) <;> omega | fail) only [go_sem, hz, a0] <;> rfl); with_reducible first | apply o_i | apply g_1 | apply g_2 | apply g_3 | apply g_4 | apply c_1 | apply c_2) | apply r_E | apply b_k | apply s_k | apply s_q)
    refine W_ret ?_; (try simp only [Then, Out, Jump, JumpL]); refine ret_mk (by simp (disch := first | decide | (try simp only [zz, hz]) <;> omega | fail) only [go_sem, hz] <;> rfl) ?_; (try simp only [resultA])
    exact ⟨by first | rfl | trivial, h1, g1⟩
  | false =>
    repeat (first | apply s_R | apply o_n | ((first | apply o_p | (refine' o_g rfl rfl ?_ ?_; rotate_left) | apply w_c); (focus simp (disch := first | decide | (try simp only [zz, hz]) <;> omega | fail) only [go_sem, hz, a0] <;> rfl); with_reducible first | apply o_i | apply g_1 | apply g_2 | apply g_3 | apply g_4 | apply c_1 | apply c_2) | apply r_E | apply b_k | apply s_k | apply s_q)
    refine O_call (by simp (disch := first | decide | (try simp only [zz, hz]) <;> omega | fail) only [go_sem, hz, a0] <;> rfl) ?_
    refine C.mono (refuse_c h1 10) ?_
    rintro _ σ2 ⟨h2, g2⟩
    repeat (first | apply s_R | apply o_n | ((first | apply o_p | (refine' o_g rfl rfl ?_ ?_; rotate_left) | apply w_c); (focus simp (disch := first | decide | (try simp only [zz, hz]) <;> omega | fail) only [go_sem, hz, a0] <;> rfl); with_reducible first | apply o_i | apply g_1 | apply g_2 | apply g_3 | apply g_4 | apply c_1 | apply c_2) | apply r_E | apply b_k | apply s_k | apply s_q)
    refine W_ret ?_; (try simp only [Then, Out, Jump, JumpL]); refine ret_mk (by simp (disch := first | decide | (try simp only [zz, hz]) <;> omega | fail) only [go_sem, hz] <;> rfl) ?_; (try simp only [resultA])
    exact ⟨by first | rfl | trivial, h2, g1.trans g2⟩
theorem name_c (hword : ∀ (σ : AW) (x : ByteArray), C Tryz.prog 85 [.string x] σ fun v σ' => v = .bool (wordB x) ∧ σ' = σ) (h : RdS σ r b T d s) :
    C Tryz.prog 51 [.pointer (some ⟨r, 0, none⟩)] σ fun v σ' => v = .string (nameS s).1 ∧ RdS σ' r b T d (nameS s).2 ∧ Gr r σ σ' := by
  obtain ⟨i, h1, hl, ht⟩ := h.head
  have hr := h1.get
  have hb := h1.toks
  have hi := h1.li
  have e0 : elemAtA Tryz.prog 72 ⟨b, 4 * i, none⟩ (T.length - i) 0 = some (.pointer (some ⟨b, 4 * i, none⟩)) := elem0 sz_72 (by omega)
  have hd := tok_1 ht
  refine C_enter rfl Tryz.func51 rfl Tryz.ntmps51 Tryz.results51 (Nat.le_of_ble_eq_true rfl) ?_; intro A hz hA; have a0 := hA 0 _ rfl; clear hA
  repeat (first | apply s_R | apply o_n | ((first | apply o_p | (refine' o_g rfl rfl ?_ ?_; rotate_left) | apply w_c); (focus simp (disch := first | decide | (try simp only [zz, hz]) <;> omega | fail) only [go_sem, hz, a0, hr, hb, hd, e0] <;> rfl); with_reducible first | apply o_i | apply g_1 | apply g_2 | apply g_3 | apply g_4 | apply c_1 | apply c_2) | apply r_E | apply b_k | apply s_k | apply s_q)
  refine O_call (by simp (disch := first | decide | (try simp only [zz, hz]) <;> omega | fail) only [go_sem, hz, a0, hr, hb, hd, e0] <;> rfl) ?_
  refine C.mono (hword _ _) ?_
  rintro _ _ ⟨rfl, rfl⟩
  have e : nameS s = if wordB s.head.2.1 = true then (eB, (refuseS 10 s).2) else if (takeKindS 1 s).1 = true then (s.head.2.1, (takeKindS 1 s).2) else (eB, (refuseS 10 (takeKindS 1 s).2).2) := by
    have h1 : nameS s = (if wordB s.head.2.1 = true then (refuseS 10 >>= fun _ => Pure.pure eB) else (takeKindS 1 >>= fun b => if b = true then Pure.pure s.head.2.1 else (refuseS 10 >>= fun _ => Pure.pure eB)) : SM ByteArray) s := rfl
    rw [h1]
    split
    · rfl
    · show (if (takeKindS 1 s).1 = true then (pure s.head.2.1 : SM ByteArray) else (refuseS 10 >>= fun _ => pure eB)) (takeKindS 1 s).2 = _
      split <;> rfl
  rw [e]
  cases hw : wordB s.head.2.1 with
  | true =>
    repeat (first | apply s_R | apply o_n | ((first | apply o_p | (refine' o_g rfl rfl ?_ ?_; rotate_left) | apply w_c); (focus simp (disch := first | decide | (try simp only [zz, hz]) <;> omega | fail) only [go_sem, hz, a0] <;> rfl); with_reducible first | apply o_i | apply g_1 | apply g_2 | apply g_3 | apply g_4 | apply c_1 | apply c_2) | apply r_E | apply b_k | apply s_k | apply s_q)
    refine O_call (by simp (disch := first | decide | (try simp only [zz, hz]) <;> omega | fail) only [go_sem, hz, a0] <;> rfl) ?_
    refine C.mono (refuse_c h 10) ?_
    rintro _ σ2 ⟨h2, g2⟩
    repeat (first | apply s_R | apply o_n | ((first | apply o_p | (refine' o_g rfl rfl ?_ ?_; rotate_left) | apply w_c); (focus simp (disch := first | decide | (try simp only [zz, hz]) <;> omega | fail) only [go_sem, hz, a0] <;> rfl); with_reducible first | apply o_i | apply g_1 | apply g_2 | apply g_3 | apply g_4 | apply c_1 | apply c_2) | apply r_E | apply b_k | apply s_k | apply s_q)
    refine W_ret ?_; (try simp only [Then, Out, Jump, JumpL]); refine ret_mk (by simp (disch := first | decide | (try simp only [zz, hz]) <;> omega | fail) only [go_sem, hz] <;> rfl) ?_; (try simp only [resultA])
    exact ⟨by first | rfl | trivial, h2, g2⟩
  | false =>
    repeat (first | apply s_R | apply o_n | ((first | apply o_p | (refine' o_g rfl rfl ?_ ?_; rotate_left) | apply w_c); (focus simp (disch := first | decide | (try simp only [zz, hz]) <;> omega | fail) only [go_sem, hz, a0] <;> rfl); with_reducible first | apply o_i | apply g_1 | apply g_2 | apply g_3 | apply g_4 | apply c_1 | apply c_2) | apply r_E | apply b_k | apply s_k | apply s_q)
    refine O_call (by simp (disch := first | decide | (try simp only [zz, hz]) <;> omega | fail) only [go_sem, hz, a0] <;> rfl) ?_
    refine C.mono (takeKind_c h (k := 1) (by decide)) ?_
    rintro _ σ1 ⟨rfl, h1, g1⟩
    cases ht : (takeKindS 1 s).1 with
    | true =>
      repeat (first | apply s_R | apply o_n | ((first | apply o_p | (refine' o_g rfl rfl ?_ ?_; rotate_left) | apply w_c); (focus simp (disch := first | decide | (try simp only [zz, hz]) <;> omega | fail) only [go_sem, hz, a0] <;> rfl); with_reducible first | apply o_i | apply g_1 | apply g_2 | apply g_3 | apply g_4 | apply c_1 | apply c_2) | apply r_E | apply b_k | apply s_k | apply s_q)
      refine W_ret ?_; (try simp only [Then, Out, Jump, JumpL]); refine ret_mk (by simp (disch := first | decide | (try simp only [zz, hz]) <;> omega | fail) only [go_sem, hz] <;> rfl) ?_; (try simp only [resultA])
      exact ⟨by first | rfl | trivial, h1, g1⟩
    | false =>
      repeat (first | apply s_R | apply o_n | ((first | apply o_p | (refine' o_g rfl rfl ?_ ?_; rotate_left) | apply w_c); (focus simp (disch := first | decide | (try simp only [zz, hz]) <;> omega | fail) only [go_sem, hz, a0] <;> rfl); with_reducible first | apply o_i | apply g_1 | apply g_2 | apply g_3 | apply g_4 | apply c_1 | apply c_2) | apply r_E | apply b_k | apply s_k | apply s_q)
      refine O_call (by simp (disch := first | decide | (try simp only [zz, hz]) <;> omega | fail) only [go_sem, hz, a0] <;> rfl) ?_
      refine C.mono (refuse_c h1 10) ?_
      rintro _ σ2 ⟨h2, g2⟩
      repeat (first | apply s_R | apply o_n | ((first | apply o_p | (refine' o_g rfl rfl ?_ ?_; rotate_left) | apply w_c); (focus simp (disch := first | decide | (try simp only [zz, hz]) <;> omega | fail) only [go_sem, hz, a0] <;> rfl); with_reducible first | apply o_i | apply g_1 | apply g_2 | apply g_3 | apply g_4 | apply c_1 | apply c_2) | apply r_E | apply b_k | apply s_k | apply s_q)
      refine W_ret ?_; (try simp only [Then, Out, Jump, JumpL]); refine ret_mk (by simp (disch := first | decide | (try simp only [zz, hz]) <;> omega | fail) only [go_sem, hz] <;> rfl) ?_; (try simp only [resultA])
      exact ⟨by first | rfl | trivial, h2, g1.trans g2⟩
end
end Go.Proofs.YtckidlbmoalomaaGreatDoor


namespace Go.Proofs.YtckidlbmoalomaaGreatDoor
open Go.RowKit
set_option maxRecDepth 10000
set_option linter.unusedSimpArgs false
set_option linter.unusedVariables false

structure Ks (σ σ' : AW) : Prop where
  next : σ.next ≤ σ'.next
  get : ∀ k, k < σ.next → (σ.get k).esz ≠ 0 → σ'.get k = σ.get k
theorem Ks.refl (σ : AW) : Ks σ σ := ⟨Nat.le_refl _, fun _ _ _ => rfl⟩
theorem Ks.trans {σ σ1 σ2 : AW} (h : Ks σ σ1) (k : Ks σ1 σ2) : Ks σ σ2 := ⟨Nat.le_trans h.next k.next, fun j h1 h2 => by
  have e := h.get j h1 h2
  rw [k.get j (Nat.lt_of_lt_of_le h1 h.next) (by rw [e]; exact h2), e]⟩
theorem Ks.push {σ σ1 : AW} (h : Ks σ σ1) (b : Blk) : Ks σ (σ1.push b) := ⟨Nat.le_succ_of_le h.next, fun j h1 h2 => by have := h.next; rw [push_ne (by omega)]; exact h.get j h1 h2⟩
theorem Ks.set {σ σ1 : AW} (h : Ks σ σ1) {k : Nat} (hk : σ.next ≤ k ∨ (σ.get k).esz = 0) (b : Blk) : Ks σ (σ1.set k b) := ⟨h.next, fun j h1 h2 => by
  rw [set_ne (fun e => by subst e; rcases hk with hk | hk <;> omega)]; exact h.get j h1 h2⟩
theorem Gr.ks {r : Nat} {σ σ' : AW} (h : Gr r σ σ') (hr : (σ.get r).esz = 0) : Ks σ σ' := ⟨h.next, fun j h1 h2 => h.get j h1 (fun e => h2 (by rw [e]; exact hr))⟩
theorem Kp.ks {σ σ' : AW} (h : Kp σ σ') : Ks σ σ' := ⟨h.next, fun j h1 _ => h.get j h1⟩
theorem TE.ks {n : Nat} {σ σ' : AW} {D : Nat → Prop} {v p : Value} (h : TE n σ D v p) (k : Ks σ σ') : TE n σ' D v p := h.keep (fun j _ h1 h2 => k.get j h1 h2) k.next (fun _ h _ => h)
theorem TE.lo {n : Nat} {σ : AW} {D D' : Nat → Prop} {v p : Value} (h : TE n σ D v p) (hD : ∀ k, D k → D' k) : TE n σ D' v p := h.keep (fun _ _ _ _ => rfl) (Nat.le_refl _) (fun k h _ => hD k h)
theorem Rd.ks {σ σ' : AW} {D : Nat → Prop} {v p : Value} (h : Rd σ D p v) (k : Ks σ σ') : Rd σ' D p v := h.keep (fun j _ h1 h2 => k.get j h1 h2) k.next (fun _ h _ => h)
structure Ow (N : Nat) (σ σ' : AW) : Prop where
  next : σ.next ≤ σ'.next
  get : ∀ k, k < σ.next → k < N → σ'.get k = σ.get k
theorem Ow.refl (N : Nat) (σ : AW) : Ow N σ σ := ⟨Nat.le_refl _, fun _ _ _ => rfl⟩
theorem Ow.push {N : Nat} {σ σ1 : AW} (h : Ow N σ σ1) (b : Blk) : Ow N σ (σ1.push b) := ⟨Nat.le_succ_of_le h.next, fun j h1 h2 => by have := h.next; rw [push_ne (by omega)]; exact h.get j h1 h2⟩
theorem Ow.set {N : Nat} {σ σ1 : AW} (h : Ow N σ σ1) {k : Nat} (hk : N ≤ k) (b : Blk) : Ow N σ (σ1.set k b) := ⟨h.next, fun j h1 h2 => by rw [set_ne (by omega)]; exact h.get j h1 h2⟩
theorem RdS.ow {σ σ' : AW} {r b N : Nat} {T : List Tk} {d : Int} {s : Sy} (h : RdS σ r b T d s) (o : Ow N σ σ') (hr : r < N) (hb : b < N) : RdS σ' r b T d s := by
  obtain ⟨i, h1, h2⟩ := h
  exact ⟨i, ⟨by rw [o.get r h1.lr hr]; exact h1.get, by rw [o.get b h1.lb hb]; exact h1.toks, Nat.lt_of_lt_of_le h1.lr o.next, Nat.lt_of_lt_of_le h1.lb o.next, h1.li, h1.few, h1.last⟩, h2⟩
theorem Gr.ow {r : Nat} {σ σ1 σ2 : AW} (h : Gr r σ σ1) (o : Ow σ.next σ1 σ2) : Gr r σ σ2 := ⟨Nat.le_trans h.next o.next, fun k h1 h2 => (o.get k (Nat.lt_of_lt_of_le h1 h.next) h1).trans (h.get k h1 h2)⟩
theorem RdS.lb {σ : AW} {r b : Nat} {T : List Tk} {d : Int} {s : Sy} (h : RdS σ r b T d s) : b < σ.next := by obtain ⟨i, h1, _⟩ := h; exact h1.lb
theorem RdS.ez {σ : AW} {r b : Nat} {T : List Tk} {d : Int} {s : Sy} (h : RdS σ r b T d s) : (σ.get r).esz = 0 := by obtain ⟨i, h1, _⟩ := h; rw [h1.get]

section
variable {r b : Nat} {T : List Tk}
def Post (n r b : Nat) (T : List Tk) (d : Int) (σ : AW) (p : Tr × Sy) : Value → AW → Prop := fun v σ' => TE n σ' (fun k => σ.next ≤ k) v p.1 ∧ RdS σ' r b T d p.2 ∧ Gr r σ σ'
def Reads (E : AW → Prop) (n r b : Nat) (T : List Tk) (d : Int) (g : Nat) (xs : List Value) (m : SM Tr) : Prop := ∀ σ s, E σ → RdS σ r b T d s → C Tryz.prog g xs σ (Post n r b T d σ (m s))
def Stable (r : Nat) (E : AW → Prop) : Prop := ∀ σ σ', E σ → Gr r σ σ' → E σ'
theorem Gr.unpush {r : Nat} {σ σ2 : AW} {x : Blk} (h : Gr r (σ.push x) σ2) : Gr r σ σ2 := ((Kp.refl σ).push x).gr r |>.trans h
theorem post_fin {n : Nat} {d : Int} {σ σ2 σ3 : AW} {p : Tr × Sy} {v : Value} (ow : Ow σ.next σ2 σ3) (g : Gr r σ σ2) (h : RdS σ2 r b T d p.2) (hlr : r < σ.next) (hlb : b < σ.next) (ht : TE n σ3 (fun k => σ.next ≤ k) v p.1) : Post n r b T d σ p v σ3 :=
  ⟨ht, h.ow ow hlr hlb, g.ow ow⟩
theorem deeperE_c {E : AW → Prop} (hE : Stable r E) {d : Int} (h0 : 0 ≤ d) (hd : d ≤ 40) {g : Nat} {fs cs : List Value} {m : SM Tr} (hf : d < 40 → Reads E 6 r b T (d + 1) g (fs ++ cs) m) :
    Reads E 6 r b T d 32 [.pointer (some ⟨r, 0, none⟩), .func (.func g) ⟨fs⟩ ⟨cs⟩] (if d = 40 then tooDeep zE else m) := by
  intro σ s he h
  have hlr := h.lr
  have hlb := h.lb
  obtain ⟨i, h1, hl⟩ := h
  have hr := h1.get
  refine C_enter rfl Tryz.func32 rfl Tryz.ntmps32 Tryz.results32 (Nat.le_of_ble_eq_true rfl) ?_; intro A hz hA; have a0 := hA 0 _ rfl; have a1 := hA 1 _ rfl; clear hA
  by_cases hc : d = 40
  · have c1 : (d == 40) = true := by simp [hc]
    rw [if_pos hc]
    repeat (first | apply s_R | apply o_n | ((first | apply o_p | (refine' o_g rfl rfl ?_ ?_; rotate_left) | apply w_c); (focus simp (disch := first | decide | (try simp only [zz, hz]) <;> omega | fail) only [go_sem, hz, a0, a1, hr, c1] <;> rfl); with_reducible first | apply o_i | apply g_1 | apply g_2 | apply g_3 | apply g_4 | apply c_1 | apply c_2) | apply r_E | apply b_k | apply s_k | apply s_q)
    refine O_call (by simp (disch := first | decide | (try simp only [zz, hz]) <;> omega | fail) only [go_sem, hz, a0, a1, hr, c1] <;> rfl) ?_
    refine C.mono (refuse_c (b := b) (T := T) (d := d) (s := s) (⟨i, h1.kp ((Kp.refl σ).push _), hl⟩) 9) ?_
    rintro _ σ2 ⟨h2, g2⟩
    have gN : σ2.get σ.next = ⟨1, 37, 0, _⟩ := (g2.get σ.next (Nat.lt_succ_self _) (by omega)).trans push_eq
    have nx := g2.next
    simp only [push_next] at nx
    repeat (first | apply s_R | apply o_n | ((first | apply o_p | (refine' o_g rfl rfl ?_ ?_; rotate_left) | apply w_c); (focus simp (disch := first | decide | (try simp only [zz, hz]) <;> omega | fail) only [go_sem, hz, a0, a1, gN] <;> rfl); with_reducible first | apply o_i | apply g_1 | apply g_2 | apply g_3 | apply g_4 | apply c_1 | apply c_2) | apply r_E | apply b_k | apply s_k | apply s_q)
    refine W_ret ?_; (try simp only [Then, Out, Jump, JumpL]); refine ret_mk (by simp (disch := first | decide | (try simp only [zz, hz]) <;> omega | fail) only [go_sem, hz, gN] <;> rfl) ?_; (try simp only [resultA])
    exact post_fin (((Ow.refl _ _).push _).set (Nat.le_refl _) _) g2.unpush h2 hlr hlb (te_mkE (rd_nil _ _ _) (rd_nil _ _ _))
  · have c1 : (d == 40) = false := by simp [hc]
    rw [if_neg hc]
    have hadd : fastB .add (.int .i64 d) (.int .i64 1) = some (.int .i64 (d + 1)) := bin_addI (by omega) (by omega)
    have hsub : fastB .sub (.int .i64 (d + 1)) (.int .i64 1) = some (.int .i64 d) := by rw [bin_subI (by omega) (by omega)]; congr 2; omega
    repeat (first | apply s_R | apply o_n | ((first | apply o_p | (refine' o_g rfl rfl ?_ ?_; rotate_left) | apply w_c); (focus simp (disch := first | decide | (try simp only [zz, hz]) <;> omega | fail) only [go_sem, hz, a0, a1, hr, c1, hadd] <;> rfl); with_reducible first | apply o_i | apply g_1 | apply g_2 | apply g_3 | apply g_4 | apply c_1 | apply c_2) | apply r_E | apply b_k | apply s_k | apply s_q)
    refine O_call (by simp (disch := first | decide | (try simp only [zz, hz]) <;> omega | fail) only [go_sem, hz, a0, a1, hr, c1] <;> rfl) ?_
    have g1 : ∀ B1 B2 : Blk, Gr r σ ((σ.push B1).set r B2) := fun _ _ => ((Gr.refl r σ).push _).set (.inr rfl) _
    refine C.mono (hf (by omega) _ s (hE _ _ he (g1 _ _)) ⟨i, h1.gr (g1 _ _) h1.li (by rw [set_eq]), hl⟩) ?_
    rintro _ σ2 ⟨⟨t2, l, rfl, hl2, ho2⟩, h2, g2⟩
    have gN : σ2.get σ.next = ⟨1, 37, 0, _⟩ := (g2.get σ.next (Nat.lt_succ_self _) (by omega)).trans ((set_ne (by omega)).trans push_eq)
    have nx := g2.next
    simp only [push_next, set_next] at nx
    obtain ⟨i2, r2, e2⟩ := h2
    have hr2 := r2.get
    repeat (first | apply s_R | apply o_n | ((first | apply o_p | (refine' o_g rfl rfl ?_ ?_; rotate_left) | apply w_c); (focus simp (disch := first | decide | (try simp only [zz, hz]) <;> omega | fail) only [go_sem, hz, a0, a1, gN, hl2, ho2, hr2, hsub] <;> rfl); with_reducible first | apply o_i | apply g_1 | apply g_2 | apply g_3 | apply g_4 | apply c_1 | apply c_2) | apply r_E | apply b_k | apply s_k | apply s_q)
    refine W_ret ?_; (try simp only [Then, Out, Jump, JumpL]); refine ret_mk (by simp (disch := first | decide | (try simp only [zz, hz]) <;> omega | fail) only [go_sem, hz, gN, hl2] <;> rfl) ?_; (try simp only [resultA])
    refine ⟨TE.ks ⟨t2, l, rfl, hl2, ho2⟩ ((((Ks.refl σ2).push _).set (.inl (Nat.le_refl _)) _).set (.inr (by rw [hr2])) _ |>.set (.inr (by rw [gN])) _) |>.lo (fun k hk => ?_), ⟨i2, r2.gr ((((Gr.refl r σ2).push _).set (.inl (Nat.le_refl _)) _).set (.inr rfl) _) r2.li (by rw [set_eq]) |>.set (by omega) (by omega) _, e2⟩, ?_⟩
    · have : σ.next + 1 ≤ k := hk
      omega
    · exact ((((g1 _ _).trans g2).push _).set (.inl (by omega)) _ |>.set (.inr rfl) _).set (.inl (Nat.le_refl _)) _
end
end Go.Proofs.YtckidlbmoalomaaGreatDoor


namespace Go.Proofs.YtckidlbmoalomaaGreatDoor

def Shr {α : Type} (m : SM α) : Prop := ∀ σ, (m σ).2.left.length ≤ σ.left.length
theorem Shr.bind {α β : Type} {m : SM α} {k : α → SM β} (h : Shr m) (hk : ∀ a, Shr (k a)) : Shr (m >>= k) := fun σ => Nat.le_trans (hk _ _) (h σ)
theorem Shr.pure {α : Type} (a : α) : Shr (Pure.pure a : SM α) := fun _ => Nat.le_refl _
theorem Shr.head : Shr headM := fun _ => Nat.le_refl _
theorem Shr.sees (x : ByteArray) : Shr (seesS x) := fun _ => Nat.le_refl _
theorem Shr.refuse (e : Int) : Shr (refuseS e) := by
  intro σ
  unfold refuseS
  simp only
  split
  · simp
  · exact Nat.le_refl _
theorem Shr.take (x : ByteArray) : Shr (takeS x) := by
  intro σ
  unfold takeS
  split
  · simp
  · exact Nat.le_refl _
theorem Shr.takeKind (k : Int) : Shr (takeKindS k) := by
  intro σ
  unfold takeKindS
  split
  · simp
  · exact Nat.le_refl _
theorem Shr.takeAny (l : List ByteArray) : Shr (takeAnyS l) := by
  induction l with
  | nil => exact fun _ => Nat.le_refl _
  | cons x l ih =>
    intro σ
    unfold takeAnyS
    split
    · simp
    · exact ih σ
theorem Shr.ite {α : Type} {c : Prop} [Decidable c] {m n : SM α} (h : Shr m) (h' : Shr n) : Shr (if c then m else n) := by
  split
  · exact h
  · exact h'
theorem Shr.want (x : ByteArray) : Shr (wantS x) := (Shr.take x).bind fun _ => .ite (.pure _) (.refuse _)
theorem Shr.name : Shr nameS := Shr.head.bind fun _ => .ite ((Shr.refuse _).bind fun _ => .pure _) ((Shr.takeKind _).bind fun _ => .ite (.pure _) ((Shr.refuse _).bind fun _ => .pure _))
theorem Shr.number : Shr numberS := Shr.head.bind fun _ => (Shr.takeKind _).bind fun _ => .ite (.pure _) ((Shr.refuse _).bind fun _ => .pure _)
theorem Shr.loop {α : Type} {s : α → SM (Option α)} (h : ∀ a, Shr (s a)) : ∀ (f : Nat) (x : α), Shr (loopS s f x)
  | 0, x => .pure x
  | f + 1, x => (h x).bind fun o => by
      cases o with
      | none => exact .pure x
      | some y => exact Shr.loop h f y
theorem Shr.while {α : Type} {s : α → SM (Option α)} (h : ∀ a, Shr (s a)) (x : α) : Shr (whileS s x) := fun σ => Shr.loop h σ.left.length x σ
theorem Shr.fromLeft {m : Tr → ByteArray → SM Tr} (h : ∀ a b, Shr (m a b)) (l : List ByteArray) (x : Tr) : Shr (fromLeftS m l x) :=
  Shr.while (fun a => (Shr.takeAny l).bind fun o => by
    cases o with
    | none => exact .pure _
    | some y => exact (h a y).bind fun _ => .pure _) x
theorem Shr.each {α : Type} {r : SM α} (h : Shr r) (x : ByteArray) (l : List α) : Shr (eachS x r l) :=
  Shr.while (fun _ => (Shr.take x).bind fun _ => .ite (h.bind fun _ => .pure _) (.pure _)) l
theorem Shr.list {α : Type} {r : SM α} (h : Shr r) (x : ByteArray) : Shr (listS x r) := h.bind fun _ => h.each x _
theorem Shr.behind {α : Type} {r : SM α} (h : Shr r) (x : ByteArray) : Shr (behindS x r) := (Shr.take x).bind fun _ => .ite (h.bind fun _ => .pure _) (.pure _)
theorem Shr.inBrackets {α : Type} {r : SM α} (h : Shr r) : Shr (inBracketsS r) := (Shr.want _).bind fun _ => h.bind fun _ => (Shr.want _).bind fun _ => .pure _
theorem Shr.listInBrackets {α : Type} {r : SM α} (h : Shr r) : Shr (listInBracketsS r) := ((Shr.sees _).bind fun _ => .ite (.pure _) (h.list _)).inBrackets

structure ShrK (K : Knot) : Prop where
  or : Shr K.or
  not : Shr K.not
  unary : Shr K.unary
  parts : Shr K.parts
  block : Shr K.block

section
variable {K : Knot} (h : ShrK K)
include h
omit h in
theorem Shr.operands {r : SM Tr} (hr : Shr r) (l : List ByteArray) : Shr (operandsS r l) := hr.bind fun _ => .fromLeft (fun _ _ => hr.bind fun _ => .pure _) _ _
theorem shr_choice : Shr (choiceS K) := (Shr.want _).bind fun _ => h.or.bind fun _ => (Shr.want _).bind fun _ => h.or.bind fun _ => (Shr.want _).bind fun _ => h.or.bind fun _ => (Shr.want _).bind fun _ => .pure _
theorem shr_gathered (s : ByteArray) : Shr (gatheredS K s) := Shr.inBrackets (.ite ((Shr.take _).bind fun _ => .ite (.pure _) (h.or.bind fun _ => .pure _)) (h.or.bind fun _ => .pure _))
theorem shr_named : Shr (namedS K) := Shr.name.bind fun _ => (Shr.take _).bind fun _ => .ite (Shr.name.bind fun _ => .pure _) (.ite ((Shr.sees _).bind fun _ => .ite ((shr_gathered h _).bind fun _ => .pure _) (.pure _)) (.pure _))
theorem shr_bracketed : Shr (bracketedS K) := (Shr.sees _).bind fun _ => .ite (h.parts.bind fun _ => .pure _) h.or
theorem shr_prim : Shr (primS K) := Shr.head.bind fun _ => (Shr.takeKind _).bind fun _ => .ite (.pure _) ((Shr.takeKind _).bind fun _ => .ite (.pure _) ((Shr.take _).bind fun _ => .ite (.pure _) ((Shr.take _).bind fun _ => .ite (.pure _) ((Shr.take _).bind fun _ => .ite (.pure _) ((Shr.take _).bind fun _ => .ite (Shr.name.bind fun _ => .pure _) ((Shr.take _).bind fun _ => .ite (shr_choice h) ((Shr.take _).bind fun _ => .ite (h.parts.inBrackets.bind fun _ => .pure _) ((Shr.sees _).bind fun _ => .ite (shr_bracketed h).inBrackets (shr_named h)))))))))
theorem shr_unary : Shr (unaryS K) := (Shr.take _).bind fun _ => .ite (h.unary.bind fun _ => .pure _) (shr_prim h)
theorem shr_product : Shr (productS K) := Shr.operands (shr_unary h) _
theorem shr_sum : Shr (sumS K) := Shr.operands (shr_product h) _
theorem shr_in (x : Tr) (n : Int) : Shr (inS K x n) := (Shr.want _).bind fun _ => h.parts.inBrackets.bind fun _ => .pure _
theorem shr_compared : Shr (comparedS K) := (shr_sum h).bind fun _ => (Shr.takeAny _).bind fun o => by
  cases o with
  | some m => exact (shr_sum h).bind fun _ => .pure _
  | none => exact (Shr.take _).bind fun _ => .ite ((Shr.take _).bind fun _ => (Shr.want _).bind fun _ => .pure _) ((Shr.take _).bind fun _ => .ite (shr_in h _ _) ((Shr.sees _).bind fun _ => .ite (shr_in h _ _) (.pure _)))
theorem shr_not : Shr (notS K) := (Shr.take _).bind fun _ => .ite (h.not.bind fun _ => .pure _) (shr_compared h)
theorem shr_and : Shr (andS K) := Shr.operands (shr_not h) _
theorem shr_or : Shr (orS K) := Shr.operands (shr_and h) _
theorem shr_item : Shr (itemS K) := h.or.bind fun _ => (Shr.want _).bind fun _ => Shr.name.bind fun _ => .pure _
theorem shr_key : Shr (keyS K) := h.or.bind fun _ => (Shr.take _).bind fun _ => .pure _
theorem shr_one : Shr (oneS K) := (Shr.sees _).bind fun _ => .ite (h.parts.inBrackets.bind fun _ => (Shr.want _).bind fun _ => Shr.name.bind fun _ => .pure _) (Shr.name.bind fun _ => (Shr.take _).bind fun _ => (Shr.take _).bind fun _ => .ite (Shr.name.bind fun _ => .pure _) (.pure _))
theorem shr_join (x : Tr) (n : Int) : Shr (joinS K x n) := (shr_one h).bind fun _ => (Shr.want _).bind fun _ => h.or.bind fun _ => .pure _
theorem shr_source : Shr (sourceS K) := (shr_one h).bind fun _ => .fromLeft (fun _ _ => .ite ((Shr.want _).bind fun _ => shr_join h _ _) (shr_join h _ _)) _ _
theorem shr_group : Shr (groupS K) := (Shr.take _).bind fun _ => .ite ((Shr.want _).bind fun _ => (h.or.list _).bind fun _ => (h.or.behind _).bind fun _ => .pure _) (.pure _)
theorem shr_order : Shr (orderS K) := (Shr.take _).bind fun _ => .ite ((Shr.want _).bind fun _ => (shr_key h).list _) (.pure _)
omit h in
theorem shr_limit : Shr limitS := (Shr.take _).bind fun _ => .ite .number (.pure _)
theorem shr_part : Shr (partS K) := (Shr.sees _).bind fun _ => .ite h.parts.inBrackets ((Shr.want _).bind fun _ => (Shr.take _).bind fun _ => ((shr_item h).list _).bind fun _ => ((shr_source h).behind _).bind fun _ => (h.or.behind _).bind fun _ => (shr_group h).bind fun _ => (shr_order h).bind fun _ => shr_limit.bind fun _ => .pure _)
omit h in
theorem shr_together (s : ByteArray) : Shr (togetherS s) := .ite (.pure _) (.ite (.pure _) ((Shr.take _).bind fun _ => .ite (.pure _) (.pure _)))
theorem shr_parts : Shr (partsS K) := (shr_part h).bind fun _ => .fromLeft (fun _ _ => (shr_together _).bind fun _ => (shr_part h).bind fun _ => .pure _) _ _
theorem shr_assigned : Shr (assignedS K) := Shr.name.bind fun _ => (Shr.want _).bind fun _ => h.or.bind fun _ => .pure _
theorem shr_plain (k a : Int) : Shr (plainS K k a) :=
  .ite ((shr_assigned h).bind fun _ => .pure _) (.ite (Shr.name.bind fun _ => .pure _) (.ite (Shr.name.bind fun _ => h.or.bind fun _ => .pure _)
  (.ite ((Shr.want _).bind fun _ => Shr.name.bind fun _ => (Shr.take _).bind fun _ => .ite ((h.or.list _).inBrackets.bind fun _ => .pure _) (h.parts.bind fun _ => .pure _))
  (.ite (Shr.name.bind fun _ => (Shr.want _).bind fun _ => ((shr_assigned h).list _).bind fun _ => (h.or.behind _).bind fun _ => .pure _)
  (.ite ((Shr.want _).bind fun _ => Shr.name.bind fun _ => (h.or.behind _).bind fun _ => .pure _)
  (.ite (Shr.name.bind fun _ => h.or.listInBrackets.bind fun _ => .pure _) (.pure _)))))))
theorem shr_fill (k a : Int) : Shr (fillS K k a) :=
  .ite (h.or.bind fun _ => h.block.bind fun _ => (Shr.take _).bind fun _ => .ite (h.block.bind fun _ => .pure _) (.pure _))
  (.ite (h.or.bind fun _ => h.block.bind fun _ => .pure _)
  (.ite ((Shr.name.list _).bind fun _ => (Shr.want _).bind fun _ => h.parts.bind fun _ => h.block.bind fun _ => .pure _)
  (.ite (h.block.bind fun _ => (Shr.want _).bind fun _ => h.block.bind fun _ => .pure _)
  ((shr_plain h _ _).bind fun _ => (Shr.want _).bind fun _ => .pure _))))
theorem shr_stmts : Shr (stmtsS K) :=
  Shr.while (fun _ => Shr.head.bind fun _ => .ite (.pure _) ((Shr.takeKind _).bind fun _ => .ite ((shr_fill h _ _).bind fun _ => .pure _) (.pure _))) _
theorem shr_block : Shr (blockS K) := (Shr.want _).bind fun _ => (shr_stmts h).bind fun _ => (Shr.want _).bind fun _ => .pure _
end
theorem Shr.tooDeep {α : Type} (z : α) : Shr (Go.Proofs.YtckidlbmoalomaaGreatDoor.tooDeep z) := (Shr.refuse 9).bind fun _ => .pure z
theorem shr_knot : ∀ n : Nat, ShrK (knot n)
  | 0 => ⟨.tooDeep _, .tooDeep _, .tooDeep _, .tooDeep _, .tooDeep _⟩
  | n + 1 => ⟨shr_or (shr_knot n), shr_not (shr_knot n), shr_unary (shr_knot n), shr_parts (shr_knot n), shr_block (shr_knot n)⟩
end Go.Proofs.YtckidlbmoalomaaGreatDoor
