/- The program's reader: a whole script. -/
import Derived.Test.YtckidlbmoalomaaGreatDoorJ26
import Derived.Test.YtckidlbmoalomaaGreatDoorJ20


namespace Go.Proofs.YtckidlbmoalomaaGreatDoor
open Go.RowKit
set_option maxRecDepth 10000
set_option linter.unusedSimpArgs false
set_option linter.unusedVariables false

section
variable {r b : Nat} {T : List Tk}
theorem deeperS_c {E : AW → Prop} (hE : Stable r E) {d : Int} (h0 : 0 ≤ d) (hd : d ≤ 40) {g : Nat} {fs cs : List Value} {m : SM Tr} (hf : d < 40 → Reads E 3 r b T (d + 1) g (fs ++ cs) m) :
    Reads E 3 r b T d 23 [.pointer (some ⟨r, 0, none⟩), .func (.func g) ⟨fs⟩ ⟨cs⟩] (if d = 40 then tooDeep zSc else m) := by
  intro σ s he h
  have hlr := h.lr
  have hlb := h.lb
  obtain ⟨i, h1, hl⟩ := h
  have hr := h1.get
  refine C_enter rfl Tryz.func23 rfl Tryz.ntmps23 Tryz.results23 (Nat.le_of_ble_eq_true rfl) ?_; intro A hz hA; have a0 := hA 0 _ rfl; have a1 := hA 1 _ rfl; clear hA
  by_cases hc : d = 40
  · have c1 : (d == 40) = true := by simp [hc]
    rw [if_pos hc]
    repeat (first | apply s_R | apply o_n | ((first | apply o_p | (refine' o_g rfl rfl ?_ ?_; rotate_left) | apply w_c); (focus simp (disch := first | decide | (try simp only [zz, hz]) <;> omega | fail) only [go_sem, hz, a0, a1, hr, c1] <;> rfl); with_reducible first | apply o_i | apply g_1 | apply g_2 | apply g_3 | apply g_4 | apply c_1 | apply c_2) | apply r_E | apply b_k | apply s_k | apply s_q)
    refine O_call (by simp (disch := first | decide | (try simp only [zz, hz]) <;> omega | fail) only [go_sem, hz, a0, a1, hr, c1] <;> rfl) ?_
    refine C.mono (refuse_c (b := b) (T := T) (d := d) (s := s) (⟨i, h1.kp ((Kp.refl σ).push _), hl⟩) 9) ?_
    rintro _ σ2 ⟨h2, g2⟩
    have gN : σ2.get σ.next = ⟨1, 27, 0, _⟩ := (g2.get σ.next (Nat.lt_succ_self _) (by omega)).trans push_eq
    have nx := g2.next
    simp only [push_next] at nx
    repeat (first | apply s_R | apply o_n | ((first | apply o_p | (refine' o_g rfl rfl ?_ ?_; rotate_left) | apply w_c); (focus simp (disch := first | decide | (try simp only [zz, hz]) <;> omega | fail) only [go_sem, hz, a0, a1, gN] <;> rfl); with_reducible first | apply o_i | apply g_1 | apply g_2 | apply g_3 | apply g_4 | apply c_1 | apply c_2) | apply r_E | apply b_k | apply s_k | apply s_q)
    refine W_ret ?_; (try simp only [Then, Out, Jump, JumpL]); refine ret_mk (by simp (disch := first | decide | (try simp only [zz, hz]) <;> omega | fail) only [go_sem, hz, gN] <;> rfl) ?_; (try simp only [resultA])
    exact post_fin (((Ow.refl _ _).push _).set (Nat.le_refl _) _) g2.unpush h2 hlr hlb (te_mkSc (rd_nil _ _ _) (rd_nil _ _ _) (rd_nil _ _ _))
  · have c1 : (d == 40) = false := by simp [hc]
    rw [if_neg hc]
    have hadd : fastB .add (.int .i64 d) (.int .i64 1) = some (.int .i64 (d + 1)) := bin_addI (by omega) (by omega)
    have hsub : fastB .sub (.int .i64 (d + 1)) (.int .i64 1) = some (.int .i64 d) := by rw [bin_subI (by omega) (by omega)]; congr 2; omega
    repeat (first | apply s_R | apply o_n | ((first | apply o_p | (refine' o_g rfl rfl ?_ ?_; rotate_left) | apply w_c); (focus simp (disch := first | decide | (try simp only [zz, hz]) <;> omega | fail) only [go_sem, hz, a0, a1, hr, c1, hadd] <;> rfl); with_reducible first | apply o_i | apply g_1 | apply g_2 | apply g_3 | apply g_4 | apply c_1 | apply c_2) | apply r_E | apply b_k | apply s_k | apply s_q)
    refine O_call (by simp (disch := first | decide | (try simp only [zz, hz]) <;> omega | fail) only [go_sem, hz, a0, a1, hr, c1] <;> rfl) ?_
    have g1 : ∀ B1 B2 : Blk, Gr r σ ((σ.push B1).set r B2) := fun _ _ => ((Gr.refl r σ).push _).set (.inr rfl) _
    refine C.mono (hf (by omega) _ s (hE _ _ he (g1 _ _)) ⟨i, h1.gr (g1 _ _) h1.li (by rw [set_eq]), hl⟩) ?_
    rintro _ σ2 ⟨⟨t2, l, rfl, hl2, ho2⟩, h2, g2⟩
    have gN : σ2.get σ.next = ⟨1, 27, 0, _⟩ := (g2.get σ.next (Nat.lt_succ_self _) (by omega)).trans ((set_ne (by omega)).trans push_eq)
    have nx := g2.next
    simp only [push_next, set_next] at nx
    obtain ⟨i2, r2, e2⟩ := h2
    have hr2 := r2.get
    repeat (first | apply s_R | apply o_n | ((first | apply o_p | (refine' o_g rfl rfl ?_ ?_; rotate_left) | apply w_c); (focus simp (disch := first | decide | (try simp only [zz, hz]) <;> omega | fail) only [go_sem, hz, a0, a1, gN, hl2, ho2, hr2, hsub] <;> rfl); with_reducible first | apply o_i | apply g_1 | apply g_2 | apply g_3 | apply g_4 | apply c_1 | apply c_2) | apply r_E | apply b_k | apply s_k | apply s_q)
    refine W_ret ?_; (try simp only [Then, Out, Jump, JumpL]); refine ret_mk (by simp (disch := first | decide | (try simp only [zz, hz]) <;> omega | fail) only [go_sem, hz, gN, hl2] <;> rfl) ?_; (try simp only [resultA])
    refine ⟨TE.ks ⟨t2, l, rfl, hl2, ho2⟩ ((((Ks.refl σ2).push _).set (.inl (Nat.le_refl _)) _).set (.inr (by rw [hr2])) _ |>.set (.inr (by rw [gN])) _) |>.lo (fun k hk => ?_), ⟨i2, r2.gr ((((Gr.refl r σ2).push _).set (.inl (Nat.le_refl _)) _).set (.inr rfl) _) r2.li (by rw [set_eq]) |>.set (by omega) (by omega) _, e2⟩, ?_⟩
    · have : σ.next + 1 ≤ k := hk
      omega
    · exact ((((g1 _ _).trans g2).push _).set (.inl (by omega)) _ |>.set (.inr rfl) _).set (.inl (Nat.le_refl _)) _
theorem script1_c {d : Int} {m : SM Tr} (hf : Reads (fun _ => True) 3 r b T d 12 [.pointer (some ⟨r, 0, none⟩)] m) : Reads (fun _ => True) 3 r b T d 11 [.pointer (some ⟨r, 0, none⟩)] m := by
  intro σ s he h
  have hlr := h.lr
  have hlb := h.lb
  refine C_enter rfl Tryz.func11 rfl Tryz.ntmps11 Tryz.results11 (Nat.le_of_ble_eq_true rfl) ?_; intro A hz hA; have a0 := hA 0 _ rfl; clear hA
  repeat (first | apply s_R | apply o_n | ((first | apply o_p | (refine' o_g rfl rfl ?_ ?_; rotate_left) | apply w_c); (focus simp (disch := first | decide | (try simp only [zz, hz]) <;> omega | fail) only [go_sem, hz, a0] <;> rfl); with_reducible first | apply o_i | apply g_1 | apply g_2 | apply g_3 | apply g_4 | apply c_1 | apply c_2) | apply r_E | apply b_k | apply s_k | apply s_q)
  refine O_call (by simp (disch := first | decide | (try simp only [zz, hz]) <;> omega | fail) only [go_sem, hz, a0] <;> rfl) ?_
  refine C.mono (hf _ _ trivial (h.kp ((Kp.refl σ).push _))) ?_
  rintro _ σ2 ⟨⟨t2, l, rfl, hl, ho⟩, h2, g2⟩
  have nx2 := g2.next
  simp only [push_next] at nx2
  have gN := (g2.get σ.next (by first | omega | (simp only [push_next, set_next]; first | done | omega)) (by omega)).trans push_eq
  repeat (first | apply s_R | apply o_n | ((first | apply o_p | (refine' o_g rfl rfl ?_ ?_; rotate_left) | apply w_c); (focus simp (disch := first | decide | (try simp only [zz, hz]) <;> omega | fail) only [go_sem, hz, a0, hl, ho, gN] <;> rfl); with_reducible first | apply o_i | apply g_1 | apply g_2 | apply g_3 | apply g_4 | apply c_1 | apply c_2) | apply r_E | apply b_k | apply s_k | apply s_q)
  refine W_ret ?_; (try simp only [Then, Out, Jump, JumpL]); refine ret_mk (by simp (disch := first | decide | (try simp only [zz, hz]) <;> omega | fail) only [go_sem, hz, hl] <;> rfl) ?_; (try simp only [resultA])
  exact post_fin ((Ow.refl _ _).set (Nat.le_refl _) _) g2.unpush h2 hlr hlb ((TE.ks ⟨t2, l, rfl, hl, ho⟩ ((Ks.refl σ2).set (.inr (by rw [gN])) _)).lo (fun k hk => by have := hk; simp only [push_next] at this; omega))
def WhS (r n0 n4 g : Nat) (σ : AW) : Prop := σ.get n0 = ⟨1, 52, 0, [.func (.func g) ⟨[]⟩ ⟨[]⟩]⟩ ∧ σ.get n4 = ⟨1, 50, 0, [.pointer (some ⟨r, 0, none⟩)]⟩ ∧ n0 < σ.next ∧ n4 < σ.next ∧ n0 ≠ r ∧ n4 ≠ r
theorem whS_stable (r n0 n4 g : Nat) : Stable r (WhS r n0 n4 g) := fun _ _ ⟨h1, h2, h3, h4, h5, h6⟩ g => ⟨(g.get _ h3 h5).trans h1, (g.get _ h4 h6).trans h2, Nat.lt_of_lt_of_le h3 g.next, Nat.lt_of_lt_of_le h4 g.next, h5, h6⟩
theorem wholeS1_c {d : Int} {m : SM Tr} {n0 n4 g : Nat} (hf : Reads (fun _ => True) 3 r b T d g [.pointer (some ⟨r, 0, none⟩)] m) : Reads (WhS r n0 n4 g) 3 r b T d 24 ([] ++ [.pointer (some ⟨n0, 0, none⟩), .pointer (some ⟨n4, 0, none⟩)]) m := by
  intro σ s he h
  obtain ⟨e1, e2, e3, e4, e5, e6⟩ := he
  have hlr := h.lr
  have hlb := h.lb
  refine C_enter rfl Tryz.func24 rfl Tryz.ntmps24 Tryz.results24 (Nat.le_of_ble_eq_true rfl) ?_; intro A hz hA; have a0 := hA 0 _ rfl; have a1 := hA 1 _ rfl; clear hA
  repeat (first | apply s_R | apply o_n | ((first | apply o_p | (refine' o_g rfl rfl ?_ ?_; rotate_left) | apply w_c); (focus simp (disch := first | decide | (try simp only [zz, hz]) <;> omega | fail) only [go_sem, hz, a0, a1, e1, e2] <;> rfl); with_reducible first | apply o_i | apply g_1 | apply g_2 | apply g_3 | apply g_4 | apply c_1 | apply c_2) | apply r_E | apply b_k | apply s_k | apply s_q)
  refine O_call (by simp (disch := first | decide | (try simp only [zz, hz]) <;> omega | fail) only [go_sem, hz, a0, a1] <;> rfl) ?_
  refine C.mono (hf _ _ trivial (h.kp ((Kp.refl σ).push _))) ?_
  rintro _ σ2 ⟨⟨t2, l, rfl, hl, ho⟩, h2, g2⟩
  have nx2 := g2.next
  simp only [push_next] at nx2
  have gN := (g2.get σ.next (by first | omega | (simp only [push_next, set_next]; first | done | omega)) (by omega)).trans push_eq
  repeat (first | apply s_R | apply o_n | ((first | apply o_p | (refine' o_g rfl rfl ?_ ?_; rotate_left) | apply w_c); (focus simp (disch := first | decide | (try simp only [zz, hz]) <;> omega | fail) only [go_sem, hz, a0, hl, ho, gN] <;> rfl); with_reducible first | apply o_i | apply g_1 | apply g_2 | apply g_3 | apply g_4 | apply c_1 | apply c_2) | apply r_E | apply b_k | apply s_k | apply s_q)
  refine W_ret ?_; (try simp only [Then, Out, Jump, JumpL]); refine ret_mk (by simp (disch := first | decide | (try simp only [zz, hz]) <;> omega | fail) only [go_sem, hz, hl] <;> rfl) ?_; (try simp only [resultA])
  exact post_fin ((Ow.refl _ _).set (Nat.le_refl _) _) g2.unpush h2 hlr hlb ((TE.ks ⟨t2, l, rfl, hl, ho⟩ ((Ks.refl σ2).set (.inr (by rw [gN])) _)).lo (fun k hk => by have := hk; simp only [push_next] at this; omega))
end
set_option maxHeartbeats 1600000 in
theorem wholeS_c {s : ByteArray} (hs : s.size ≤ 1000000) {g : Nat} {m : SM Tr} (hf : ∀ r b T, Reads (fun _ => True) 3 r b T 1 g [.pointer (some ⟨r, 0, none⟩)] m) (σ : AW) :
    C Tryz.prog 10 [.string s, .func (.func g) ⟨[]⟩ ⟨[]⟩] σ (WPost 3 σ (wholeS zSc m (scanS s))) := by
  refine C_enter rfl Tryz.func10 rfl Tryz.ntmps10 Tryz.results10 (Nat.le_of_ble_eq_true rfl) ?_; intro A hz hA; have a0 := hA 0 _ rfl; have a1 := hA 1 _ rfl; clear hA
  repeat (first | apply s_R | apply o_n | ((first | apply o_p | (refine' o_g rfl rfl ?_ ?_; rotate_left) | apply w_c); (focus simp (disch := first | decide | (try simp only [zz, hz]) <;> omega | fail) only [go_sem, hz, a0, a1] <;> rfl); with_reducible first | apply o_i | apply g_1 | apply g_2 | apply g_3 | apply g_4 | apply c_1 | apply c_2) | apply r_E | apply b_k | apply s_k | apply s_q)
  refine O_call (by simp (disch := first | decide | (try simp only [zz, hz]) <;> omega | fail) only [go_sem, hz, a0, a1] <;> rfl) ?_
  refine C.mono (scan_c _ s hs) ?_
  rintro _ _ (⟨h0, rfl, rfl⟩ | ⟨h0, rfl, rfl⟩)
  · have c1 : ((scanS s).2.2 != 0) = true := by simp [h0]
    repeat (first | apply s_R | apply o_n | ((first | apply o_p | (refine' o_g rfl rfl ?_ ?_; rotate_left) | apply w_c); (focus simp (disch := first | decide | (try simp only [zz, hz]) <;> omega | fail) only [go_sem, hz, a0, a1, c1] <;> rfl); with_reducible first | apply o_i | apply g_1 | apply g_2 | apply g_3 | apply g_4 | apply c_1 | apply c_2) | apply r_E | apply b_k | apply s_k | apply s_q)
    refine W_ret ?_; (try simp only [Then, Out, Jump, JumpL]); refine ret_mk (by simp (disch := first | decide | (try simp only [zz, hz]) <;> omega | fail) only [go_sem, hz] <;> rfl) ?_; (try simp only [resultA])
    unfold wholeS
    rw [if_pos h0]
    exact ⟨_, rfl, te_mkSc (rd_nil _ _ _) (rd_nil _ _ _) (rd_nil _ _ _), ((((Kp.refl σ).push _).push _).push _).set (by omega) _⟩
  · have c1 : ((scanS s).2.2 != 0) = false := by simp [h0]
    obtain ⟨⟨T0, e0, hT⟩, hlen⟩ := scanS_last s h0
    obtain ⟨p, hp⟩ : ∃ p, scanS s = ((scanS s).1, p, 0) := ⟨_, Prod.ext rfl (Prod.ext rfl h0)⟩
    rw [hp, whole_eq]
    clear hp
    have c2 : ((0 : Int) != 0) = false := rfl
    repeat (first | apply s_R | apply o_n | ((first | apply o_p | (refine' o_g rfl rfl ?_ ?_; rotate_left) | apply w_c); (focus simp (disch := first | decide | (try simp only [zz, hz]) <;> omega | fail) only [go_sem, hz, a0, a1, c1, c2] <;> rfl); with_reducible first | apply o_i | apply g_1 | apply g_2 | apply g_3 | apply g_4 | apply c_1 | apply c_2) | apply r_E | apply b_k | apply s_k | apply s_q)
    refine O_call (by simp (disch := first | decide | (try simp only [zz, hz]) <;> omega | fail) only [go_sem, hz, a0, a1] <;> rfl) ?_
    generalize (scanS s).1 = T at *
    have hlast : ∀ t, T[T.length - 1]? = some t → t.1 = 0 := fun t ht => by
      rw [hT] at ht
      simp at ht
      rw [← ht]
    have hpos : 0 < T.length := by rw [hT]; simp
    have hd := deeperS_c (r := σ.next + 1 + 1 + 1 + 1) (b := σ.next + 1 + 1 + 1) (T := T) (fs := []) (cs := [.pointer (some ⟨σ.next, 0, none⟩), .pointer (some ⟨σ.next + 1 + 1 + 1 + 1 + 1, 0, none⟩)]) (whS_stable (σ.next + 1 + 1 + 1 + 1) σ.next (σ.next + 1 + 1 + 1 + 1 + 1) g) (d := 0) (by omega) (by omega) (fun _ => wholeS1_c (hf _ _ _))
    rw [if_neg (by decide)] at hd
    refine C.mono (hd _ ⟨T, 0, 0⟩ (by refine' ⟨?_, ?_, by first | omega | (simp only [push_next, set_next]; first | done | omega), by first | omega | (simp only [push_next, set_next]; first | done | omega), by omega, by omega⟩; any_goals simp (disch := first | decide | (try simp only [zz, hz]) <;> omega | fail) only [go_sem, hz] <;> rfl) (by refine' ⟨0, ⟨?_, ?_, by first | omega | (simp only [push_next, set_next]; first | done | omega), by first | omega | (simp only [push_next, set_next]; first | done | omega), hpos, by omega, hlast⟩, rfl⟩; any_goals simp (disch := first | decide | (try simp only [zz, hz]) <;> omega | fail) only [go_sem, hz] <;> rfl)) ?_
    rintro _ σ2 ⟨⟨t2, l2, rfl, hl2, ho2⟩, h2, g2⟩
    have t2 : TE 3 σ2 _ (.agg ⟨l2⟩) _ := ⟨t2, l2, rfl, hl2, ho2⟩
    have nx2 := g2.next
    simp only [push_next, set_next] at nx2
    have gA2 : σ2.get (σ.next + 1) = ⟨1, 27, 0, [.slice none 0 0, .slice none 0 0, .slice none 0 0]⟩ := (g2.get _ (by first | omega | (simp only [push_next, set_next]; first | done | omega)) (by omega)).trans (by simp (disch := first | decide | (try simp only [zz, hz]) <;> omega | fail) only [go_sem, hz] <;> rfl)
    have gB2 : σ2.get (σ.next + 1 + 1) = ⟨1, 27, 0, [.slice none 0 0, .slice none 0 0, .slice none 0 0]⟩ := (g2.get _ (by first | omega | (simp only [push_next, set_next]; first | done | omega)) (by omega)).trans (by simp (disch := first | decide | (try simp only [zz, hz]) <;> omega | fail) only [go_sem, hz] <;> rfl)
    have gP2 : σ2.get (σ.next + 1 + 1 + 1 + 1 + 1) = ⟨1, 50, 0, [.pointer (some ⟨σ.next + 1 + 1 + 1 + 1, 0, none⟩)]⟩ := (g2.get _ (by first | omega | (simp only [push_next, set_next]; first | done | omega)) (by omega)).trans (by simp (disch := first | decide | (try simp only [zz, hz]) <;> omega | fail) only [go_sem, hz] <;> rfl)
    have kp2 : Kp σ σ2 := (((((((Kp.refl σ).push _).push _).push _).push _).push _).push _).set (by omega) _ |>.gr2 g2 (by omega)
    clear g2 hd
    generalize m ⟨T, 0, 0⟩ = q at *
    obtain ⟨x, s2⟩ := q
    simp only at h2 t2 ⊢
    obtain ⟨i2, r2, e2, ht2⟩ := h2.head
    have hr := r2.get
    have hb := r2.toks
    have hi := r2.li
    have e0 : elemAtA Tryz.prog 72 ⟨σ.next + 1 + 1 + 1, 4 * i2, none⟩ (T.length - i2) 0 = some (.pointer (some ⟨σ.next + 1 + 1 + 1, 4 * i2, none⟩)) := elem0 sz_72 (by omega)
    have hd2 := tok_0 ht2
    have h2r : ∀ B1 B2 : Blk, RdS ((σ2.push B1).set σ2.next B2) (σ.next + 1 + 1 + 1 + 1) (σ.next + 1 + 1 + 1) T 0 s2 := fun _ _ => h2.ow (((Ow.refl σ2.next σ2).push _).set (Nat.le_refl _) _) h2.lr h2.lb
    have k2 : ∀ B1 B2 : Blk, Ks σ2 ((σ2.push B1).set σ2.next B2) := fun _ _ => ((Ks.refl σ2).push _).set (.inl (Nat.le_refl _)) _
    have kp3 : ∀ B1 B2 : Blk, Kp σ ((σ2.push B1).set σ2.next B2) := fun _ _ => (kp2.push _).set (by omega) _
    repeat (first | apply s_R | apply o_n | ((first | apply o_p | (refine' o_g rfl rfl ?_ ?_; rotate_left) | apply w_c); (focus simp (disch := first | decide | (try simp only [zz, hz]) <;> omega | fail) only [go_sem, hz, a0, a1, hl2, ho2, gP2, hr, hb, hd2, e0] <;> rfl); with_reducible first | apply o_i | apply g_1 | apply g_2 | apply g_3 | apply g_4 | apply c_1 | apply c_2) | apply r_E | apply b_k | apply s_k | apply s_q)
    refine W.mono (Q := fun e A' σ' => e = .normal ∧ A'.size = 55 ∧ A'.get 4 = some (.pointer (some ⟨σ.next + 1, 0, none⟩)) ∧ A'.get 7 = some (.pointer (some ⟨σ.next + 1 + 1, 0, none⟩)) ∧ A'.get 11 = some (.pointer (some ⟨σ.next + 1 + 1 + 1 + 1 + 1, 0, none⟩)) ∧ A'.get 12 = some (.pointer (some ⟨σ2.next, 0, none⟩)) ∧ RdS σ' (σ.next + 1 + 1 + 1 + 1) (σ.next + 1 + 1 + 1) T 0 (endS s2) ∧ σ'.get (σ.next + 1) = ⟨1, 27, 0, [.slice none 0 0, .slice none 0 0, .slice none 0 0]⟩ ∧ σ'.get (σ.next + 1 + 1) = ⟨1, 27, 0, [.slice none 0 0, .slice none 0 0, .slice none 0 0]⟩ ∧ σ'.get (σ.next + 1 + 1 + 1 + 1 + 1) = ⟨1, 50, 0, [.pointer (some ⟨σ.next + 1 + 1 + 1 + 1, 0, none⟩)]⟩ ∧ σ'.get σ2.next = ⟨1, 27, 0, l2⟩ ∧ Ks σ2 σ' ∧ Kp σ σ' ∧ σ2.next < σ'.next) ?_ ?_
    · unfold endS
      by_cases c : s2.head.1 = 0
      · have c2 : (s2.head.1 != 0) = false := by simp [c]
        rw [if_pos c]
        repeat (first | apply s_R | apply o_n | ((first | apply o_p | (refine' o_g rfl rfl ?_ ?_; rotate_left) | apply w_c); (focus simp (disch := first | decide | (try simp only [zz, hz]) <;> omega | fail) only [go_sem, hz, c2] <;> rfl); with_reducible first | apply o_i | apply g_1 | apply g_2 | apply g_3 | apply g_4 | apply c_1 | apply c_2) | apply r_E | apply b_k | apply s_k | apply s_q)
        exact (by refine' ⟨rfl, ?_, ?_, ?_, ?_, ?_, h2r _ _, ?_, ?_, ?_, ?_, k2 _ _, kp3 _ _, by first | omega | (simp only [push_next, set_next]; first | done | omega)⟩; any_goals simp (disch := first | decide | (try simp only [zz, hz]) <;> omega | fail) only [go_sem, hz, gA2, gB2, gP2] <;> rfl)
      · have c2 : (s2.head.1 != 0) = true := by simp [c]
        rw [if_neg c]
        repeat (first | apply s_R | apply o_n | ((first | apply o_p | (refine' o_g rfl rfl ?_ ?_; rotate_left) | apply w_c); (focus simp (disch := first | decide | (try simp only [zz, hz]) <;> omega | fail) only [go_sem, hz, c2, gP2] <;> rfl); with_reducible first | apply o_i | apply g_1 | apply g_2 | apply g_3 | apply g_4 | apply c_1 | apply c_2) | apply r_E | apply b_k | apply s_k | apply s_q)
        refine O_call (by simp (disch := first | decide | (try simp only [zz, hz]) <;> omega | fail) only [go_sem, hz, gP2] <;> rfl) ?_
        refine C.mono (refuse_c (h2r _ _) 10) ?_
        rintro _ σ3 ⟨h3, g3⟩
        have nx3 := g3.next
        simp only [push_next, set_next] at nx3
        repeat (first | apply s_R | apply o_n | ((first | apply o_p | (refine' o_g rfl rfl ?_ ?_; rotate_left) | apply w_c); (focus simp (disch := first | decide | (try simp only [zz, hz]) <;> omega | fail) only [go_sem, hz] <;> rfl); with_reducible first | apply o_i | apply g_1 | apply g_2 | apply g_3 | apply g_4 | apply c_1 | apply c_2) | apply r_E | apply b_k | apply s_k | apply s_q)
        exact (by refine' ⟨rfl, ?_, ?_, ?_, ?_, ?_, h3, (g3.get _ (by first | omega | (simp only [push_next, set_next]; first | done | omega)) (by omega)).trans ?_, (g3.get _ (by first | omega | (simp only [push_next, set_next]; first | done | omega)) (by omega)).trans ?_, (g3.get _ (by first | omega | (simp only [push_next, set_next]; first | done | omega)) (by omega)).trans ?_, (g3.get _ (by first | omega | (simp only [push_next, set_next]; first | done | omega)) (by omega)).trans ?_, (k2 _ _).trans (g3.ks (h2r _ _).ez), (kp3 _ _).gr2 g3 (by omega), by omega⟩; any_goals simp (disch := first | decide | (try simp only [zz, hz]) <;> omega | fail) only [go_sem, hz, gA2, gB2, gP2] <;> rfl)
    rintro _ A σ3 ⟨rfl, hz, a4, a7, a11, a12, h3, gA3, gB3, gP3, gM3, k3, kp3, nx3⟩
    simp only [Then]
    clear e0 hd2 hr hb hi r2 e2 ht2 h2r k2 h2
    generalize endS s2 = s3 at *
    obtain ⟨i3, r3, e3, ht3⟩ := h3.head
    have hr := r3.get
    by_cases c : s3.err = 0
    · have c2 : (s3.err != 0) = false := by simp [c]
      rw [if_neg (by simp [c])]
      repeat (first | apply s_R | apply o_n | ((first | apply o_p | (refine' o_g rfl rfl ?_ ?_; rotate_left) | apply w_c); (focus simp (disch := first | decide | (try simp only [zz, hz]) <;> omega | fail) only [go_sem, hz, a4, a7, a11, a12, gA3, gP3, gM3, hr, c2, hl2, ho2] <;> rfl); with_reducible first | apply o_i | apply g_1 | apply g_2 | apply g_3 | apply g_4 | apply c_1 | apply c_2) | apply r_E | apply b_k | apply s_k | apply s_q)
      refine W_ret ?_; (try simp only [Then, Out, Jump, JumpL]); refine ret_mk (by simp (disch := first | decide | (try simp only [zz, hz]) <;> omega | fail) only [go_sem, hz, a4, hl2] <;> rfl) ?_; (try simp only [resultA])
      exact ⟨_, rfl, ((t2.ks k3).ks ((Ks.refl σ3).set (.inr (by rw [gA3])) _)).lo (fun k hk => by have := hk; simp only [push_next, set_next] at this; omega), kp3.set (by omega) _⟩
    · have c2 : (s3.err != 0) = true := by simp [c]
      rw [if_pos c]
      repeat (first | apply s_R | apply o_n | ((first | apply o_p | (refine' o_g rfl rfl ?_ ?_; rotate_left) | apply w_c); (focus simp (disch := first | decide | (try simp only [zz, hz]) <;> omega | fail) only [go_sem, hz, a4, a7, a11, a12, gA3, gP3, gM3, hr, c2] <;> rfl); with_reducible first | apply o_i | apply g_1 | apply g_2 | apply g_3 | apply g_4 | apply c_1 | apply c_2) | apply r_E | apply b_k | apply s_k | apply s_q)
      refine W_regDE mixed (by kernel_rfl) (by kernel_rfl) ?_
      repeat (apply v_x; (focus simp (disch := first | decide | (try simp only [zz, hz]) <;> omega | fail) only [go_sem, hz, a4, a7, a11, a12, gA3, gB3, gP3, hr] <;> rfl); first | refine vX_n ?_ | refine vX_l ?_ | refine vX_e ?_)
      refine V_nil ?_; refine And.intro (owes_by (L := [(0, 0), (1, 0), (1, 10), (4, 0), (4, 10), (5, 0), (5, 10), (8, 0), (8, 10)]) ?_ ?_) ?_; rotate_left 2; (try simp only [Then, Out, JumpL]); rotate_right 2; focus (kernel_rfl)
      · (repeat (refine owe_cons (Owed_op rfl rfl rfl rfl rfl (by simp (disch := first | decide | (try simp only [zz, hz]) <;> omega | fail) only [go_sem, hz, a4, a7, a11, a12, gA3, gB3, gP3, hr] <;> rfl)) ?_)); exact owe_nil
      refine W_ret ?_; (try simp only [Then, Out, Jump, JumpL]); refine ret_mk (by simp (disch := first | decide | (try simp only [zz, hz]) <;> omega | fail) only [go_sem, hz, a4] <;> rfl) ?_; (try simp only [resultA])
      exact ⟨_, rfl, te_mkSc (rd_nil _ _ _) (rd_nil _ _ _) (rd_nil _ _ _), kp3.set (by omega) _⟩
theorem scriptF_c {s : ByteArray} (hs : s.size ≤ 1000000) (σ : AW) : C Tryz.prog 5 [.string s] σ (WPost 3 σ (scriptOf s)) := by
  refine C_enter rfl Tryz.func5 rfl Tryz.ntmps5 Tryz.results5 (Nat.le_of_ble_eq_true rfl) ?_; intro A hz hA; have a0 := hA 0 _ rfl; clear hA
  repeat (first | apply s_R | apply o_n | ((first | apply o_p | (refine' o_g rfl rfl ?_ ?_; rotate_left) | apply w_c); (focus simp (disch := first | decide | (try simp only [zz, hz]) <;> omega | fail) only [go_sem, hz, a0] <;> rfl); with_reducible first | apply o_i | apply g_1 | apply g_2 | apply g_3 | apply g_4 | apply c_1 | apply c_2) | apply r_E | apply b_k | apply s_k | apply s_q)
  refine O_call (by simp (disch := first | decide | (try simp only [zz, hz]) <;> omega | fail) only [go_sem, hz, a0] <;> rfl) ?_
  refine C.mono (wholeS_c hs (m := scriptS (knot 39)) (fun r b T => script1_c (script_c (knot_c word_c 39 1 (by decide) (by decide)) (yl_knot 39) (knotB_c 39 1 (by decide) (by decide)))) _) ?_
  rintro _ σ1 ⟨x, rfl, t1, k1⟩
  have nx1 := k1.next
  simp only [push_next] at nx1
  obtain ⟨t1, l, rfl, hl, ho⟩ := t1
  have gN1 : σ1.get σ.next = _ := (k1.get σ.next (by first | omega | (simp only [push_next, set_next]; first | done | omega))).trans push_eq
  repeat (first | apply s_R | apply o_n | ((first | apply o_p | (refine' o_g rfl rfl ?_ ?_; rotate_left) | apply w_c); (focus simp (disch := first | decide | (try simp only [zz, hz]) <;> omega | fail) only [go_sem, hz, a0, hl, ho, gN1] <;> rfl); with_reducible first | apply o_i | apply g_1 | apply g_2 | apply g_3 | apply g_4 | apply c_1 | apply c_2) | apply r_E | apply b_k | apply s_k | apply s_q)
  refine W_ret ?_; (try simp only [Then, Out, Jump, JumpL]); refine ret_mk (by simp (disch := first | decide | (try simp only [zz, hz]) <;> omega | fail) only [go_sem, hz, hl] <;> rfl) ?_; (try simp only [resultA])
  exact ⟨_, rfl, (TE.ks ⟨t1, l, rfl, hl, ho⟩ ((Ks.refl σ1).set (.inr (by rw [gN1])) _)).lo (fun k hk => by have := hk; simp only [push_next] at this; omega), ⟨by rw [set_next]; omega, fun k hk => by rw [set_ne (by omega), k1.get k (by rw [push_next]; omega), push_ne (by omega)]⟩⟩
end Go.Proofs.YtckidlbmoalomaaGreatDoor
