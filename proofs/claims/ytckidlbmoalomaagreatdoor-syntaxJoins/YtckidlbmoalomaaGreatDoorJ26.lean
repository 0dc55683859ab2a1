/- The program's reader: procedures, scripts. -/
import Derived.Test.YtckidlbmoalomaaGreatDoorJ25


namespace Go.Proofs.YtckidlbmoalomaaGreatDoor
open Go.RowKit
set_option maxRecDepth 10000
set_option linter.unusedSimpArgs false
set_option linter.unusedVariables false

theorem te_mkP {σ : AW} {D : Nat → Prop} {s : ByteArray} {ps vs bd : List Tr} {v1 v2 v3 : Value} (h1 : Rd σ D (sl 2 ps) v1) (h2 : Rd σ D (sl 2 vs) v2) (h3 : Rd σ D (sl 9 bd) v3) : TE 4 σ D (.agg ⟨[.string s, v1, v2, v3]⟩) (mkP s ps vs bd) :=
  ⟨rd_agg.2 ⟨_, rfl, _, _, rfl, rfl, _, _, rfl, h1, _, _, rfl, h2, _, _, rfl, h3, rfl⟩, _, rfl, rfl, by simp only [List.all_cons, List.all_nil, rd_one h1, rd_one h2, rd_one h3]; rfl⟩
theorem te_mkSc {σ : AW} {D : Nat → Prop} {vs ps bd : List Tr} {v1 v2 v3 : Value} (h1 : Rd σ D (sl 2 vs) v1) (h2 : Rd σ D (sl 4 ps) v2) (h3 : Rd σ D (sl 9 bd) v3) : TE 3 σ D (.agg ⟨[v1, v2, v3]⟩) (mkSc vs ps bd) :=
  ⟨rd_agg.2 ⟨_, rfl, _, _, rfl, h1, _, _, rfl, h2, _, _, rfl, h3, rfl⟩, _, rfl, rfl, by simp only [List.all_cons, List.all_nil, rd_one h1, rd_one h2, rd_one h3]; rfl⟩
section
variable {r b : Nat} {T : List Tk}
set_option maxHeartbeats 1600000 in
theorem proc_c {K : Knot} {d : Int} (hK : KOK K r b T d) (hY : YlK K) (hB : ReadsL (fun _ => True) 9 r b T d 90 [.pointer (some ⟨r, 0, none⟩)] K.block) : Reads (fun _ => True) 4 r b T d 28 [.pointer (some ⟨r, 0, none⟩)] (procS K) := by
  intro σ s he h
  have hlr := h.lr
  have hlb := h.lb
  have e : procS K s = (mkP (nameS s).1 (listInBracketsS variableS (nameS s).2).1 (declsS (wantS m_lb (listInBracketsS variableS (nameS s).2).2).2).1 (stmtsS K (declsS (wantS m_lb (listInBracketsS variableS (nameS s).2).2).2).2).1, (wantS m_rb (stmtsS K (declsS (wantS m_lb (listInBracketsS variableS (nameS s).2).2).2).2).2).2) := by
    unfold procS
    simp only [SM.bind_run, SM.pure_run]
  rw [e]
  refine C_enter rfl Tryz.func28 rfl Tryz.ntmps28 Tryz.results28 (Nat.le_of_ble_eq_true rfl) ?_; intro A hz hA; have a0 := hA 0 _ rfl; clear hA
  repeat (first | apply s_R | apply o_n | ((first | apply o_p | (refine' o_g rfl rfl ?_ ?_; rotate_left) | apply w_c); (focus simp (disch := first | decide | (try simp only [zz, hz]) <;> omega | fail) only [go_sem, hz, a0] <;> rfl); with_reducible first | apply o_i | apply g_1 | apply g_2 | apply g_3 | apply g_4 | apply c_1 | apply c_2) | apply r_E | apply b_k | apply s_k | apply s_q)
  refine O_call (by simp (disch := first | decide | (try simp only [zz, hz]) <;> omega | fail) only [go_sem, hz, a0] <;> rfl) ?_
  refine C.mono (name_c word_c (h.kp ((Kp.refl σ).push _))) ?_
  rintro _ σ1 ⟨rfl, h1, g1⟩
  have nx1 := g1.next
  simp only [push_next] at nx1
  have gN1 := (g1.get σ.next (by first | omega | (simp only [push_next, set_next]; first | done | omega)) (by omega)).trans push_eq
  have G1 : Gr r σ σ1 := g1.unpush
  repeat (first | apply s_R | apply o_n | ((first | apply o_p | (refine' o_g rfl rfl ?_ ?_; rotate_left) | apply w_c); (focus simp (disch := first | decide | (try simp only [zz, hz]) <;> omega | fail) only [go_sem, hz, a0] <;> rfl); with_reducible first | apply o_i | apply g_1 | apply g_2 | apply g_3 | apply g_4 | apply c_1 | apply c_2) | apply r_E | apply b_k | apply s_k | apply s_q)
  refine O_call (by simp (disch := first | decide | (try simp only [zz, hz]) <;> omega | fail) only [go_sem, hz, a0] <;> rfl) ?_
  have kp1 : ∀ B1 B2 : Blk, Kp σ1 ((σ1.push B1).set σ1.next B2) := fun _ _ => ((Kp.refl σ1).push _).set (Nat.le_refl _) _
  refine C.mono (libV_c (fs := [.pointer (some ⟨r, 0, none⟩)]) (cs := []) stable_true shr_variable variable_c _ _ trivial (h1.kp (kp1 _ _))) ?_
  rintro v σ2 ⟨t2, h2, g2⟩
  obtain ⟨va, vb, vc, rfl⟩ := rd_shape t2
  have nx2 := g2.next
  simp only [push_next, set_next] at nx2
  have gM2 := (g2.get σ1.next (by first | omega | (simp only [push_next, set_next]; first | done | omega)) (by omega)).trans set_eq
  have gN2 := (g2.get σ.next (by first | omega | (simp only [push_next, set_next]; first | done | omega)) (by omega)).trans (((kp1 _ _).get _ (by omega)).trans gN1)
  have G2 : Gr r σ σ2 := (G1.kp (kp1 _ _)).trans g2
  repeat (first | apply s_R | apply o_n | ((first | apply o_p | (refine' o_g rfl rfl ?_ ?_; rotate_left) | apply w_c); (focus simp (disch := first | decide | (try simp only [zz, hz]) <;> omega | fail) only [go_sem, hz, a0, gM2] <;> rfl); with_reducible first | apply o_i | apply g_1 | apply g_2 | apply g_3 | apply g_4 | apply c_1 | apply c_2) | apply r_E | apply b_k | apply s_k | apply s_q)
  refine O_call (by simp (disch := first | decide | (try simp only [zz, hz]) <;> omega | fail) only [go_sem, hz, a0] <;> rfl) ?_
  have hne : σ1.next ≠ r := by omega
  have hneb : σ1.next ≠ b := by omega
  refine C.mono (want_c (h2.setM hne hneb _) m_lb) ?_
  rintro _ σ3 ⟨h3, g3⟩
  have nx3 := g3.next
  simp only [set_next] at nx3
  have gM3 := (g3.get σ1.next (by first | omega | (simp only [push_next, set_next]; first | done | omega)) (by omega)).trans set_eq
  have gN3 := (g3.get σ.next (by first | omega | (simp only [push_next, set_next]; first | done | omega)) (by omega)).trans ((set_ne (by omega)).trans gN2)
  have G3 : Gr r σ σ3 := (G2.set (.inl (by omega)) _).trans g3
  have k23 : Ks σ2 σ3 := ((Ks.refl σ2).set (.inr (by rw [gM2])) _).trans (g3.ks (h2.setM hne hneb _).ez)
  repeat (first | apply s_R | apply o_n | ((first | apply o_p | (refine' o_g rfl rfl ?_ ?_; rotate_left) | apply w_c); (focus simp (disch := first | decide | (try simp only [zz, hz]) <;> omega | fail) only [go_sem, hz, a0, gM3] <;> rfl); with_reducible first | apply o_i | apply g_1 | apply g_2 | apply g_3 | apply g_4 | apply c_1 | apply c_2) | apply r_E | apply b_k | apply s_k | apply s_q)
  refine O_call (by simp (disch := first | decide | (try simp only [zz, hz]) <;> omega | fail) only [go_sem, hz, a0] <;> rfl) ?_
  refine C.mono (decls_c _ _ trivial h3) ?_
  rintro v σ4 ⟨t4, h4, g4⟩
  obtain ⟨wa, wb, wc, rfl⟩ := rd_shape t4
  have nx4 := g4.next
  have gM4 := (g4.get σ1.next (by omega) (by omega)).trans gM3
  have gN4 := (g4.get σ.next (by omega) (by omega)).trans gN3
  have G4 : Gr r σ σ4 := G3.trans g4
  have k34 : Ks σ3 σ4 := g4.ks h3.ez
  repeat (first | apply s_R | apply o_n | ((first | apply o_p | (refine' o_g rfl rfl ?_ ?_; rotate_left) | apply w_c); (focus simp (disch := first | decide | (try simp only [zz, hz]) <;> omega | fail) only [go_sem, hz, a0, gM4] <;> rfl); with_reducible first | apply o_i | apply g_1 | apply g_2 | apply g_3 | apply g_4 | apply c_1 | apply c_2) | apply r_E | apply b_k | apply s_k | apply s_q)
  refine O_call (by simp (disch := first | decide | (try simp only [zz, hz]) <;> omega | fail) only [go_sem, hz, a0] <;> rfl) ?_
  refine C.mono (stmts_c hK hY hB _ _ trivial (h4.setM hne hneb _)) ?_
  rintro v σ5 ⟨t5, h5, g5⟩
  obtain ⟨xa, xb, xc, rfl⟩ := rd_shape t5
  have nx5 := g5.next
  simp only [set_next] at nx5
  have gM5 := (g5.get σ1.next (by first | omega | (simp only [push_next, set_next]; first | done | omega)) (by omega)).trans set_eq
  have gN5 := (g5.get σ.next (by first | omega | (simp only [push_next, set_next]; first | done | omega)) (by omega)).trans ((set_ne (by omega)).trans gN4)
  have G5 : Gr r σ σ5 := (G4.set (.inl (by omega)) _).trans g5
  have k45 : Ks σ4 σ5 := ((Ks.refl σ4).set (.inr (by rw [gM4])) _).trans (g5.ks (h4.setM hne hneb _).ez)
  repeat (first | apply s_R | apply o_n | ((first | apply o_p | (refine' o_g rfl rfl ?_ ?_; rotate_left) | apply w_c); (focus simp (disch := first | decide | (try simp only [zz, hz]) <;> omega | fail) only [go_sem, hz, a0, gM5] <;> rfl); with_reducible first | apply o_i | apply g_1 | apply g_2 | apply g_3 | apply g_4 | apply c_1 | apply c_2) | apply r_E | apply b_k | apply s_k | apply s_q)
  refine O_call (by simp (disch := first | decide | (try simp only [zz, hz]) <;> omega | fail) only [go_sem, hz, a0] <;> rfl) ?_
  refine C.mono (want_c (h5.setM hne hneb _) m_rb) ?_
  rintro _ σ6 ⟨h6, g6⟩
  have nx6 := g6.next
  simp only [set_next] at nx6
  have gM6 := (g6.get σ1.next (by first | omega | (simp only [push_next, set_next]; first | done | omega)) (by omega)).trans set_eq
  have gN6 := (g6.get σ.next (by first | omega | (simp only [push_next, set_next]; first | done | omega)) (by omega)).trans ((set_ne (by omega)).trans gN5)
  have G6 : Gr r σ σ6 := (G5.set (.inl (by omega)) _).trans g6
  have k56 : Ks σ5 σ6 := ((Ks.refl σ5).set (.inr (by rw [gM5])) _).trans (g6.ks (h5.setM hne hneb _).ez)
  repeat (first | apply s_R | apply o_n | ((first | apply o_p | (refine' o_g rfl rfl ?_ ?_; rotate_left) | apply w_c); (focus simp (disch := first | decide | (try simp only [zz, hz]) <;> omega | fail) only [go_sem, hz, a0, gM6, gN6] <;> rfl); with_reducible first | apply o_i | apply g_1 | apply g_2 | apply g_3 | apply g_4 | apply c_1 | apply c_2) | apply r_E | apply b_k | apply s_k | apply s_q)
  refine W_ret ?_; (try simp only [Then, Out, Jump, JumpL]); refine ret_mk (by simp (disch := first | decide | (try simp only [zz, hz]) <;> omega | fail) only [go_sem, hz] <;> rfl) ?_; (try simp only [resultA])
  have k67 : ∀ B : Blk, Ks σ6 (σ6.set σ.next B) := fun _ => (Ks.refl σ6).set (.inr (by rw [gN6])) _
  have q1 := (t2.ks (((k23.trans k34).trans k45).trans k56)).ks (k67 ⟨1, 77, 0, [.string (nameS s).1, .slice va vb vc, .slice wa wb wc, .slice xa xb xc]⟩)
  have q2 := (t4.ks (k45.trans k56)).ks (k67 ⟨1, 77, 0, [.string (nameS s).1, .slice va vb vc, .slice wa wb wc, .slice xa xb xc]⟩)
  have q3 := (t5.ks k56).ks (k67 ⟨1, 77, 0, [.string (nameS s).1, .slice va vb vc, .slice wa wb wc, .slice xa xb xc]⟩)
  exact post_fin ((Ow.refl _ _).set (Nat.le_refl _) _) G6 h6 hlr hlb (te_mkP (q1.keep (fun _ _ _ _ => rfl) (Nat.le_refl _) (fun j hj _ => by have := hj; simp only [push_next, set_next] at this; omega)) (q2.keep (fun _ _ _ _ => rfl) (Nat.le_refl _) (fun j hj _ => by have := hj; omega)) (q3.keep (fun _ _ _ _ => rfl) (Nat.le_refl _) (fun j hj _ => by have := hj; simp only [set_next] at this; omega)))
set_option maxHeartbeats 1600000 in
theorem script_c {K : Knot} {d : Int} (hK : KOK K r b T d) (hY : YlK K) (hB : ReadsL (fun _ => True) 9 r b T d 90 [.pointer (some ⟨r, 0, none⟩)] K.block) : Reads (fun _ => True) 3 r b T d 12 [.pointer (some ⟨r, 0, none⟩)] (scriptS K) := by
  intro σ s he h
  have hlr := h.lr
  have hlb := h.lb
  have e : scriptS K s = (mkSc (declsS s).1 (eachS w_proc (procS K) [] (declsS s).2).1 (stmtsS K (eachS w_proc (procS K) [] (declsS s).2).2).1, (stmtsS K (eachS w_proc (procS K) [] (declsS s).2).2).2) := rfl
  rw [e]
  refine C_enter rfl Tryz.func12 rfl Tryz.ntmps12 Tryz.results12 (Nat.le_of_ble_eq_true rfl) ?_; intro A hz hA; have a0 := hA 0 _ rfl; clear hA
  repeat (first | apply s_R | apply o_n | ((first | apply o_p | (refine' o_g rfl rfl ?_ ?_; rotate_left) | apply w_c); (focus simp (disch := first | decide | (try simp only [zz, hz]) <;> omega | fail) only [go_sem, hz, a0] <;> rfl); with_reducible first | apply o_i | apply g_1 | apply g_2 | apply g_3 | apply g_4 | apply c_1 | apply c_2) | apply r_E | apply b_k | apply s_k | apply s_q)
  refine O_call (by simp (disch := first | decide | (try simp only [zz, hz]) <;> omega | fail) only [go_sem, hz, a0] <;> rfl) ?_
  refine C.mono (decls_c _ _ trivial (h.kp ((Kp.refl σ).push _))) ?_
  rintro v σ1 ⟨t1, h1, g1⟩
  obtain ⟨va, vb, vc, rfl⟩ := rd_shape t1
  have nx1 := g1.next
  simp only [push_next] at nx1
  have gN1 := (g1.get σ.next (by first | omega | (simp only [push_next, set_next]; first | done | omega)) (by omega)).trans push_eq
  have G1 : Gr r σ σ1 := g1.unpush
  repeat (first | apply s_R | apply o_n | ((first | apply o_p | (refine' o_g rfl rfl ?_ ?_; rotate_left) | apply w_c); (focus simp (disch := first | decide | (try simp only [zz, hz]) <;> omega | fail) only [go_sem, hz, a0] <;> rfl); with_reducible first | apply o_i | apply g_1 | apply g_2 | apply g_3 | apply g_4 | apply c_1 | apply c_2) | apply r_E | apply b_k | apply s_k | apply s_q)
  refine O_call (by simp (disch := first | decide | (try simp only [zz, hz]) <;> omega | fail) only [go_sem, hz, a0] <;> rfl) ?_
  refine C.mono (eachP_c (fs := [.pointer (some ⟨r, 0, none⟩)]) (cs := []) stable_true (shr_proc hK.sh) (proc_c hK hY hB) w_proc _ _ trivial h1) ?_
  rintro v σ2 ⟨t2, h2, g2⟩
  obtain ⟨wa, wb, wc, rfl⟩ := rd_shape t2
  have nx2 := g2.next
  have gN2 := (g2.get σ.next (by omega) (by omega)).trans gN1
  repeat (first | apply s_R | apply o_n | ((first | apply o_p | (refine' o_g rfl rfl ?_ ?_; rotate_left) | apply w_c); (focus simp (disch := first | decide | (try simp only [zz, hz]) <;> omega | fail) only [go_sem, hz, a0] <;> rfl); with_reducible first | apply o_i | apply g_1 | apply g_2 | apply g_3 | apply g_4 | apply c_1 | apply c_2) | apply r_E | apply b_k | apply s_k | apply s_q)
  refine O_call (by simp (disch := first | decide | (try simp only [zz, hz]) <;> omega | fail) only [go_sem, hz, a0] <;> rfl) ?_
  refine C.mono (stmts_c hK hY hB _ _ trivial h2) ?_
  rintro v σ3 ⟨t3, h3, g3⟩
  obtain ⟨xa, xb, xc, rfl⟩ := rd_shape t3
  have nx3 := g3.next
  have gN3 := (g3.get σ.next (by omega) (by omega)).trans gN2
  repeat (first | apply s_R | apply o_n | ((first | apply o_p | (refine' o_g rfl rfl ?_ ?_; rotate_left) | apply w_c); (focus simp (disch := first | decide | (try simp only [zz, hz]) <;> omega | fail) only [go_sem, hz, a0, gN3] <;> rfl); with_reducible first | apply o_i | apply g_1 | apply g_2 | apply g_3 | apply g_4 | apply c_1 | apply c_2) | apply r_E | apply b_k | apply s_k | apply s_q)
  refine W_ret ?_; (try simp only [Then, Out, Jump, JumpL]); refine ret_mk (by simp (disch := first | decide | (try simp only [zz, hz]) <;> omega | fail) only [go_sem, hz] <;> rfl) ?_; (try simp only [resultA])
  have k34 : ∀ B : Blk, Ks σ3 (σ3.set σ.next B) := fun _ => (Ks.refl σ3).set (.inr (by rw [gN3])) _
  have k23 := g3.ks h2.ez
  have k12 := g2.ks h1.ez
  exact post_fin ((Ow.refl _ _).set (Nat.le_refl _) _) ((G1.trans g2).trans g3) h3 hlr hlb (te_mkSc (((t1.ks (k12.trans k23)).ks (k34 _)).keep (fun _ _ _ _ => rfl) (Nat.le_refl _) (fun j hj _ => by have := hj; simp only [push_next] at this; omega)) (((t2.ks k23).ks (k34 _)).keep (fun _ _ _ _ => rfl) (Nat.le_refl _) (fun j hj _ => by have := hj; omega)) ((t3.ks (k34 _)).keep (fun _ _ _ _ => rfl) (Nat.le_refl _) (fun j hj _ => by have := hj; omega)))
end
end Go.Proofs.YtckidlbmoalomaaGreatDoor
