/- The program's reader: a statement is filled. What is read where fewer things may stand within one another is the same, or too deep. What is read of tokens behind which others stand in the end's place: the same, where those begin with nothing that is asked for. -/
import Derived.Test.YtckidlbmoalomaaGreatDoorJ23
import Derived.Test.YtckidlbmoalomaaGreatDoorJ07


namespace Go.Proofs.YtckidlbmoalomaaGreatDoor
open Go.RowKit
set_option maxRecDepth 10000
set_option linter.unusedSimpArgs false
set_option linter.unusedVariables false

section
variable {r b : Nat} {T : List Tk}
theorem fill3_c {K : Knot} {d : Int} (hK : KOK K r b T d) (hB : ReadsL (fun _ => True) 9 r b T d 90 [.pointer (some ⟨r, 0, none⟩)] K.block) {σ : AW} {s : Sy} {M : Nat} {a : Int} (h : RdS σ r b T d s) (gM : σ.get M = ⟨1, 55, 0, [.int .i64 3, .int .i64 a, .string eB, .slice none 0 0, .slice none 0 0, .slice none 0 0, .slice none 0 0, .slice none 0 0, .slice none 0 0]⟩) (hM : M < σ.next) (hMr : M ≠ r) (hMb : M ≠ b) :
    C Tryz.prog 57 [.pointer (some ⟨r, 0, none⟩), .pointer (some ⟨M, 0, none⟩)] σ fun _ σ' => StP r b T d M σ (fillS K 3 a s) σ' := by
  have e : fillS K 3 a s = (mkS 3 a eB [] [(K.or s).1] [] [] (K.block (K.or s).2).1 [], (K.block (K.or s).2).2) := rfl
  rw [e]
  refine C_enter rfl Tryz.func57 rfl Tryz.ntmps57 Tryz.results57 (Nat.le_of_ble_eq_true rfl) ?_; intro A hz hA; have a0 := hA 0 _ rfl; have a1 := hA 1 _ rfl; clear hA
  repeat (first | apply s_R | apply o_n | ((first | apply o_p | (refine' o_g rfl rfl ?_ ?_; rotate_left) | apply w_c); (focus simp (disch := first | decide | (try simp only [zz, hz]) <;> omega | fail) only [go_sem, hz, a0, a1, gM, Int.reduceBEq] <;> rfl); with_reducible first | apply o_i | apply g_1 | apply g_2 | apply g_3 | apply g_4 | apply c_1 | apply c_2) | apply r_E | apply b_k | apply s_k | apply s_q)
  refine O_call (by simp (disch := first | decide | (try simp only [zz, hz]) <;> omega | fail) only [go_sem, hz, a0, a1] <;> rfl) ?_
  refine C.mono (hK.or _ _ trivial h) ?_
  rintro _ σ1 ⟨⟨t1, l1, rfl, hl1, ho1⟩, h1, g1⟩
  have t1 : TE 6 σ1 (fun k => σ.next ≤ k) (.agg ⟨l1⟩) _ := ⟨t1, l1, rfl, hl1, ho1⟩
  have nx1 := g1.next
  have gM1 := (g1.get M hM hMr).trans gM
  have g1a := g1.two M
  have pg : ∀ B1 : Blk, Gr2 r M σ1 (σ1.push B1) := fun _ => (((Kp.refl σ1).push _).gr r).two M
  have st : ∀ B B1 j, j < σ1.next → (σ1.get j).esz ≠ 0 → ((σ1.push B1).set M B).get j = σ1.get j := fun B B1 j hlt hz' => (set_ne (fun e => hz' (by rw [e, gM1]))).trans (push_ne (by omega))
  have q1 : ∀ B c, Rd ((σ1.push ⟨1, 37, 1, l1⟩).set M B) (fun k => σ.next ≤ k) (sl 6 [(K.or s).1]) (.slice (some ⟨σ1.next, 0, none⟩) 1 c) := fun B c => rd_lit1 (e := 37) (z := 1) ((set_ne (by omega)).trans push_eq) (by decide) (by first | omega | (simp only [push_next, set_next]; first | done | omega)) (by first | omega | (simp only [push_next, set_next]; first | done | omega)) (t1.keep (fun j hj hlt hz' => st _ _ j hlt hz') (Nat.le_succ _) (fun j hj _ => hj))
  repeat (first | apply s_R | apply o_n | ((first | apply o_p | (refine' o_g rfl rfl ?_ ?_; rotate_left) | apply w_c); (focus simp (disch := first | decide | (try simp only [zz, hz]) <;> omega | fail) only [go_sem, hz, a0, a1, gM1, hl1, ho1] <;> rfl); with_reducible first | apply o_i | apply g_1 | apply g_2 | apply g_3 | apply g_4 | apply c_1 | apply c_2) | apply r_E | apply b_k | apply s_k | apply s_q)
  refine O_call (by simp (disch := first | decide | (try simp only [zz, hz]) <;> omega | fail) only [go_sem, hz, a0, a1] <;> rfl) ?_
  have hm := (h1.kp ((Kp.refl σ1).push ⟨1, 37, 1, l1⟩)).setM hMr hMb ⟨1, 55, 0, [.int .i64 3, .int .i64 a, .string eB, .slice none 0 0, .slice (some ⟨σ1.next, 0, none⟩) 1 2, .slice none 0 0, .slice none 0 0, .slice none 0 0, .slice none 0 0]⟩
  refine C.mono (hB _ _ trivial hm) ?_
  rintro v σ2 ⟨t2, h2, g2⟩
  obtain ⟨va, vb, vc, rfl⟩ := rd_shape t2
  have nx2 := g2.next
  simp only [set_next, push_next] at nx2
  have gM2 := (g2.get M (by first | omega | (simp only [push_next, set_next]; first | done | omega)) hMr).trans set_eq
  have ks2 := g2.ks hm.ez
  repeat (first | apply s_R | apply o_n | ((first | apply o_p | (refine' o_g rfl rfl ?_ ?_; rotate_left) | apply w_c); (focus simp (disch := first | decide | (try simp only [zz, hz]) <;> omega | fail) only [go_sem, hz, a0, a1, gM2] <;> rfl); with_reducible first | apply o_i | apply g_1 | apply g_2 | apply g_3 | apply g_4 | apply c_1 | apply c_2) | apply r_E | apply b_k | apply s_k | apply s_q)
  simp only [Then, Out, JumpL]
  refine end_mk (by simp (disch := first | decide | (try simp only [zz, hz]) <;> omega | fail) only [go_sem, hz] <;> rfl) ?_; (try simp only [resultA])
  have sm : ∀ B j, (σ2.get j).esz ≠ 0 → (σ2.set M B).get j = σ2.get j := fun B j hz' => set_ne (fun e => hz' (by rw [e, gM2]))
  have q2 := (q1 _ 2).keep (σ' := σ2) (D' := fun k => σ.next ≤ k) (fun j _ hlt hz' => ks2.get j hlt hz') g2.next (fun _ h _ => h)
  exact ⟨⟨_, set_eq, te_mkS (rd_nil _ _ _) (q2.keep (fun j _ _ hz' => sm _ j hz') (Nat.le_refl _) (fun _ h _ => h)) (rd_nil _ _ _) (rd_nil _ _ _) (t2.keep (fun j _ _ hz' => sm _ j hz') (Nat.le_refl _) (fun j hj _ => by have := hj; simp only [set_next, push_next] at this; omega)) (rd_nil _ _ _)⟩, h2.setM hMr hMb _, (((g1a.trans (pg _)).trans (Gr2.set _)).trans (g2.two M)).trans (Gr2.set _)⟩
theorem fill10_c {K : Knot} {d : Int} (hK : KOK K r b T d) (hB : ReadsL (fun _ => True) 9 r b T d 90 [.pointer (some ⟨r, 0, none⟩)] K.block) {σ : AW} {s : Sy} {M : Nat} {a : Int} (h : RdS σ r b T d s) (gM : σ.get M = ⟨1, 55, 0, [.int .i64 10, .int .i64 a, .string eB, .slice none 0 0, .slice none 0 0, .slice none 0 0, .slice none 0 0, .slice none 0 0, .slice none 0 0]⟩) (hM : M < σ.next) (hMr : M ≠ r) (hMb : M ≠ b) :
    C Tryz.prog 57 [.pointer (some ⟨r, 0, none⟩), .pointer (some ⟨M, 0, none⟩)] σ fun _ σ' => StP r b T d M σ (fillS K 10 a s) σ' := by
  have e : fillS K 10 a s = (mkS 10 a eB [] [] [] [] (K.block s).1 (K.block (wantS w_catch (K.block s).2).2).1, (K.block (wantS w_catch (K.block s).2).2).2) := rfl
  rw [e]
  refine C_enter rfl Tryz.func57 rfl Tryz.ntmps57 Tryz.results57 (Nat.le_of_ble_eq_true rfl) ?_; intro A hz hA; have a0 := hA 0 _ rfl; have a1 := hA 1 _ rfl; clear hA
  repeat (first | apply s_R | apply o_n | ((first | apply o_p | (refine' o_g rfl rfl ?_ ?_; rotate_left) | apply w_c); (focus simp (disch := first | decide | (try simp only [zz, hz]) <;> omega | fail) only [go_sem, hz, a0, a1, gM, Int.reduceBEq] <;> rfl); with_reducible first | apply o_i | apply g_1 | apply g_2 | apply g_3 | apply g_4 | apply c_1 | apply c_2) | apply r_E | apply b_k | apply s_k | apply s_q)
  refine O_call (by simp (disch := first | decide | (try simp only [zz, hz]) <;> omega | fail) only [go_sem, hz, a0, a1] <;> rfl) ?_
  refine C.mono (hB _ _ trivial h) ?_
  rintro v σ1 ⟨t1, h1, g1⟩
  obtain ⟨va, vb, vc, rfl⟩ := rd_shape t1
  have nx1 := g1.next
  have gM1 := (g1.get M hM hMr).trans gM
  have t1s : ∀ B, Rd (σ1.set M B) (fun k => σ.next ≤ k) (sl 9 (K.block s).1) _ := fun B => t1.keep (fun j _ _ hz' => set_ne (fun e => hz' (by rw [e, gM1]))) (Nat.le_refl _) (fun _ h _ => h)
  repeat (first | apply s_R | apply o_n | ((first | apply o_p | (refine' o_g rfl rfl ?_ ?_; rotate_left) | apply w_c); (focus simp (disch := first | decide | (try simp only [zz, hz]) <;> omega | fail) only [go_sem, hz, a0, a1, gM1] <;> rfl); with_reducible first | apply o_i | apply g_1 | apply g_2 | apply g_3 | apply g_4 | apply c_1 | apply c_2) | apply r_E | apply b_k | apply s_k | apply s_q)
  refine O_call (by simp (disch := first | decide | (try simp only [zz, hz]) <;> omega | fail) only [go_sem, hz, a0, a1] <;> rfl) ?_
  have hm := h1.setM hMr hMb ⟨1, 55, 0, [.int .i64 10, .int .i64 a, .string eB, .slice none 0 0, .slice none 0 0, .slice none 0 0, .slice none 0 0, .slice va vb vc, .slice none 0 0]⟩
  refine C.mono (want_c hm w_catch) ?_
  rintro _ σ2 ⟨h2, g2⟩
  have nx2 := g2.next
  simp only [set_next] at nx2
  have gM2 := (g2.get M (by first | omega | (simp only [push_next, set_next]; first | done | omega)) hMr).trans set_eq
  have ks2 := g2.ks hm.ez
  repeat (first | apply s_R | apply o_n | ((first | apply o_p | (refine' o_g rfl rfl ?_ ?_; rotate_left) | apply w_c); (focus simp (disch := first | decide | (try simp only [zz, hz]) <;> omega | fail) only [go_sem, hz, a0, a1, gM2] <;> rfl); with_reducible first | apply o_i | apply g_1 | apply g_2 | apply g_3 | apply g_4 | apply c_1 | apply c_2) | apply r_E | apply b_k | apply s_k | apply s_q)
  refine O_call (by simp (disch := first | decide | (try simp only [zz, hz]) <;> omega | fail) only [go_sem, hz, a0, a1] <;> rfl) ?_
  refine C.mono (hB _ _ trivial h2) ?_
  rintro v σ3 ⟨t3, h3, g3⟩
  obtain ⟨wa, wb, wc, rfl⟩ := rd_shape t3
  have nx3 := g3.next
  have gM3 := (g3.get M (by omega) hMr).trans gM2
  have ks3 := g3.ks h2.ez
  repeat (first | apply s_R | apply o_n | ((first | apply o_p | (refine' o_g rfl rfl ?_ ?_; rotate_left) | apply w_c); (focus simp (disch := first | decide | (try simp only [zz, hz]) <;> omega | fail) only [go_sem, hz, a0, a1, gM3] <;> rfl); with_reducible first | apply o_i | apply g_1 | apply g_2 | apply g_3 | apply g_4 | apply c_1 | apply c_2) | apply r_E | apply b_k | apply s_k | apply s_q)
  simp only [Then, Out, JumpL]
  refine end_mk (by simp (disch := first | decide | (try simp only [zz, hz]) <;> omega | fail) only [go_sem, hz] <;> rfl) ?_; (try simp only [resultA])
  have sm : ∀ B j, (σ3.get j).esz ≠ 0 → (σ3.set M B).get j = σ3.get j := fun B j hz' => set_ne (fun e => hz' (by rw [e, gM3]))
  have ks23 := ks2.trans ks3
  have q2 := (t1s _).keep (σ' := σ3) (D' := fun k => σ.next ≤ k) (fun j _ hlt hz' => ks23.get j hlt hz') ks23.next (fun _ h _ => h)
  exact ⟨⟨_, set_eq, te_mkS (rd_nil _ _ _) (rd_nil _ _ _) (rd_nil _ _ _) (rd_nil _ _ _) (q2.keep (fun j _ _ hz' => sm _ j hz') (Nat.le_refl _) (fun _ h _ => h)) (t3.keep (fun j _ _ hz' => sm _ j hz') (Nat.le_refl _) (fun j hj _ => by have := hj; omega))⟩, h3.setM hMr hMb _, ((((g1.two M).trans (Gr2.set _)).trans (g2.two M)).trans (g3.two M)).trans (Gr2.set _)⟩
theorem fill2_c {K : Knot} {d : Int} (hK : KOK K r b T d) (hB : ReadsL (fun _ => True) 9 r b T d 90 [.pointer (some ⟨r, 0, none⟩)] K.block) {σ : AW} {s : Sy} {M : Nat} {a : Int} (h : RdS σ r b T d s) (gM : σ.get M = ⟨1, 55, 0, [.int .i64 2, .int .i64 a, .string eB, .slice none 0 0, .slice none 0 0, .slice none 0 0, .slice none 0 0, .slice none 0 0, .slice none 0 0]⟩) (hM : M < σ.next) (hMr : M ≠ r) (hMb : M ≠ b) :
    C Tryz.prog 57 [.pointer (some ⟨r, 0, none⟩), .pointer (some ⟨M, 0, none⟩)] σ fun _ σ' => StP r b T d M σ (fillS K 2 a s) σ' := by
  have e : fillS K 2 a s = (if (takeS w_else (K.block (K.or s).2).2).1 = true then (mkS 2 a eB [] [(K.or s).1] [] [] (K.block (K.or s).2).1 (K.block (takeS w_else (K.block (K.or s).2).2).2).1, (K.block (takeS w_else (K.block (K.or s).2).2).2).2) else (mkS 2 a eB [] [(K.or s).1] [] [] (K.block (K.or s).2).1 [], (takeS w_else (K.block (K.or s).2).2).2)) := by
    have e0 : fillS K 2 a s = (takeS w_else >>= fun c => if c = true then (K.block >>= fun y => Pure.pure (mkS 2 a eB [] [(K.or s).1] [] [] (K.block (K.or s).2).1 y)) else Pure.pure (mkS 2 a eB [] [(K.or s).1] [] [] (K.block (K.or s).2).1 []) : SM Tr) (K.block (K.or s).2).2 := rfl
    rw [e0, take_eq]
    split <;> rfl
  rw [e]
  refine C_enter rfl Tryz.func57 rfl Tryz.ntmps57 Tryz.results57 (Nat.le_of_ble_eq_true rfl) ?_; intro A hz hA; have a0 := hA 0 _ rfl; have a1 := hA 1 _ rfl; clear hA
  repeat (first | apply s_R | apply o_n | ((first | apply o_p | (refine' o_g rfl rfl ?_ ?_; rotate_left) | apply w_c); (focus simp (disch := first | decide | (try simp only [zz, hz]) <;> omega | fail) only [go_sem, hz, a0, a1, gM, Int.reduceBEq] <;> rfl); with_reducible first | apply o_i | apply g_1 | apply g_2 | apply g_3 | apply g_4 | apply c_1 | apply c_2) | apply r_E | apply b_k | apply s_k | apply s_q)
  refine O_call (by simp (disch := first | decide | (try simp only [zz, hz]) <;> omega | fail) only [go_sem, hz, a0, a1] <;> rfl) ?_
  refine C.mono (hK.or _ _ trivial h) ?_
  rintro _ σ1 ⟨⟨t1, l1, rfl, hl1, ho1⟩, h1, g1⟩
  have t1 : TE 6 σ1 (fun k => σ.next ≤ k) (.agg ⟨l1⟩) _ := ⟨t1, l1, rfl, hl1, ho1⟩
  have nx1 := g1.next
  have gM1 := (g1.get M hM hMr).trans gM
  have g1a := g1.two M
  have pg : ∀ B1 : Blk, Gr2 r M σ1 (σ1.push B1) := fun _ => (((Kp.refl σ1).push _).gr r).two M
  have st : ∀ B B1 j, j < σ1.next → (σ1.get j).esz ≠ 0 → ((σ1.push B1).set M B).get j = σ1.get j := fun B B1 j hlt hz' => (set_ne (fun e => hz' (by rw [e, gM1]))).trans (push_ne (by omega))
  have q1 : ∀ B c, Rd ((σ1.push ⟨1, 37, 1, l1⟩).set M B) (fun k => σ.next ≤ k) (sl 6 [(K.or s).1]) (.slice (some ⟨σ1.next, 0, none⟩) 1 c) := fun B c => rd_lit1 (e := 37) (z := 1) ((set_ne (by omega)).trans push_eq) (by decide) (by first | omega | (simp only [push_next, set_next]; first | done | omega)) (by first | omega | (simp only [push_next, set_next]; first | done | omega)) (t1.keep (fun j hj hlt hz' => st _ _ j hlt hz') (Nat.le_succ _) (fun j hj _ => hj))
  repeat (first | apply s_R | apply o_n | ((first | apply o_p | (refine' o_g rfl rfl ?_ ?_; rotate_left) | apply w_c); (focus simp (disch := first | decide | (try simp only [zz, hz]) <;> omega | fail) only [go_sem, hz, a0, a1, gM1, hl1, ho1] <;> rfl); with_reducible first | apply o_i | apply g_1 | apply g_2 | apply g_3 | apply g_4 | apply c_1 | apply c_2) | apply r_E | apply b_k | apply s_k | apply s_q)
  refine O_call (by simp (disch := first | decide | (try simp only [zz, hz]) <;> omega | fail) only [go_sem, hz, a0, a1] <;> rfl) ?_
  have hm := (h1.kp ((Kp.refl σ1).push ⟨1, 37, 1, l1⟩)).setM hMr hMb ⟨1, 55, 0, [.int .i64 2, .int .i64 a, .string eB, .slice none 0 0, .slice (some ⟨σ1.next, 0, none⟩) 1 2, .slice none 0 0, .slice none 0 0, .slice none 0 0, .slice none 0 0]⟩
  refine C.mono (hB _ _ trivial hm) ?_
  rintro v σ2 ⟨t2, h2, g2⟩
  obtain ⟨va, vb, vc, rfl⟩ := rd_shape t2
  have nx2 := g2.next
  simp only [set_next, push_next] at nx2
  have gM2 := (g2.get M (by first | omega | (simp only [push_next, set_next]; first | done | omega)) hMr).trans set_eq
  have ks2 := g2.ks hm.ez
  have sm : ∀ B j, (σ2.get j).esz ≠ 0 → (σ2.set M B).get j = σ2.get j := fun B j hz' => set_ne (fun e => hz' (by rw [e, gM2]))
  have q2 := (q1 _ 2).keep (σ' := σ2) (D' := fun k => σ.next ≤ k) (fun j _ hlt hz' => ks2.get j hlt hz') g2.next (fun _ h _ => h)
  have q2s : ∀ B, Rd (σ2.set M B) (fun k => σ.next ≤ k) (sl 6 [(K.or s).1]) (.slice (some ⟨σ1.next, 0, none⟩) 1 2) := fun B => q2.keep (fun j _ _ hz' => sm _ j hz') (Nat.le_refl _) (fun _ h _ => h)
  have t2s : ∀ B, Rd (σ2.set M B) (fun k => σ.next ≤ k) (sl 9 (K.block (K.or s).2).1) (.slice va vb vc) := fun B => t2.keep (fun j _ _ hz' => sm _ j hz') (Nat.le_refl _) (fun j hj _ => by have := hj; simp only [set_next, push_next] at this; omega)
  have gg2 := (((g1a.trans (pg ⟨1, 37, 1, l1⟩)).trans (Gr2.set ⟨1, 55, 0, [.int .i64 2, .int .i64 a, .string eB, .slice none 0 0, .slice (some ⟨σ1.next, 0, none⟩) 1 2, .slice none 0 0, .slice none 0 0, .slice none 0 0, .slice none 0 0]⟩)).trans (g2.two M))
  repeat (first | apply s_R | apply o_n | ((first | apply o_p | (refine' o_g rfl rfl ?_ ?_; rotate_left) | apply w_c); (focus simp (disch := first | decide | (try simp only [zz, hz]) <;> omega | fail) only [go_sem, hz, a0, a1, gM2] <;> rfl); with_reducible first | apply o_i | apply g_1 | apply g_2 | apply g_3 | apply g_4 | apply c_1 | apply c_2) | apply r_E | apply b_k | apply s_k | apply s_q)
  refine O_call (by simp (disch := first | decide | (try simp only [zz, hz]) <;> omega | fail) only [go_sem, hz, a0, a1] <;> rfl) ?_
  have hm3 := h2.setM hMr hMb ⟨1, 55, 0, [.int .i64 2, .int .i64 a, .string eB, .slice none 0 0, .slice (some ⟨σ1.next, 0, none⟩) 1 2, .slice none 0 0, .slice none 0 0, .slice va vb vc, .slice none 0 0]⟩
  refine C.mono (take_c hm3 w_else) ?_
  rintro _ σ3 ⟨rfl, h3, g3⟩
  have nx3 := g3.next
  simp only [set_next] at nx3
  have gM3 := (g3.get M (by first | omega | (simp only [push_next, set_next]; first | done | omega)) hMr).trans set_eq
  have ks3 := g3.ks hm3.ez
  have gg3 := (gg2.trans (Gr2.set _)).trans (g3.two M)
  have q3 := (q2s _).keep (σ' := σ3) (D' := fun k => σ.next ≤ k) (fun j _ hlt hz' => ks3.get j hlt hz') g3.next (fun _ h _ => h)
  have t3 := (t2s _).keep (σ' := σ3) (D' := fun k => σ.next ≤ k) (fun j _ hlt hz' => ks3.get j hlt hz') g3.next (fun _ h _ => h)
  cases c : (takeS w_else (K.block (K.or s).2).2).1 with
  | true =>
    rw [if_pos rfl]
    repeat (first | apply s_R | apply o_n | ((first | apply o_p | (refine' o_g rfl rfl ?_ ?_; rotate_left) | apply w_c); (focus simp (disch := first | decide | (try simp only [zz, hz]) <;> omega | fail) only [go_sem, hz, a0, a1, gM3] <;> rfl); with_reducible first | apply o_i | apply g_1 | apply g_2 | apply g_3 | apply g_4 | apply c_1 | apply c_2) | apply r_E | apply b_k | apply s_k | apply s_q)
    refine O_call (by simp (disch := first | decide | (try simp only [zz, hz]) <;> omega | fail) only [go_sem, hz, a0, a1] <;> rfl) ?_
    refine C.mono (hB _ _ trivial h3) ?_
    rintro v σ4 ⟨t4, h4, g4⟩
    obtain ⟨wa, wb, wc, rfl⟩ := rd_shape t4
    have nx4 := g4.next
    have gM4 := (g4.get M (by omega) hMr).trans gM3
    have ks4 := g4.ks h3.ez
    repeat (first | apply s_R | apply o_n | ((first | apply o_p | (refine' o_g rfl rfl ?_ ?_; rotate_left) | apply w_c); (focus simp (disch := first | decide | (try simp only [zz, hz]) <;> omega | fail) only [go_sem, hz, a0, a1, gM4] <;> rfl); with_reducible first | apply o_i | apply g_1 | apply g_2 | apply g_3 | apply g_4 | apply c_1 | apply c_2) | apply r_E | apply b_k | apply s_k | apply s_q)
    simp only [Then, Out, JumpL]
    refine end_mk (by simp (disch := first | decide | (try simp only [zz, hz]) <;> omega | fail) only [go_sem, hz] <;> rfl) ?_; (try simp only [resultA])
    have sm4 : ∀ B j, (σ4.get j).esz ≠ 0 → (σ4.set M B).get j = σ4.get j := fun B j hz' => set_ne (fun e => hz' (by rw [e, gM4]))
    have q4 := q3.keep (σ' := σ4) (D' := fun k => σ.next ≤ k) (fun j _ hlt hz' => ks4.get j hlt hz') g4.next (fun _ h _ => h)
    have t5 := t3.keep (σ' := σ4) (D' := fun k => σ.next ≤ k) (fun j _ hlt hz' => ks4.get j hlt hz') g4.next (fun _ h _ => h)
    exact ⟨⟨_, set_eq, te_mkS (rd_nil _ _ _) (q4.keep (fun j _ _ hz' => sm4 _ j hz') (Nat.le_refl _) (fun _ h _ => h)) (rd_nil _ _ _) (rd_nil _ _ _) (t5.keep (fun j _ _ hz' => sm4 _ j hz') (Nat.le_refl _) (fun _ h _ => h)) (t4.keep (fun j _ _ hz' => sm4 _ j hz') (Nat.le_refl _) (fun j hj _ => by have := hj; omega))⟩, h4.setM hMr hMb _, (gg3.trans (g4.two M)).trans (Gr2.set _)⟩
  | false =>
    rw [if_neg (by simp)]
    repeat (first | apply s_R | apply o_n | ((first | apply o_p | (refine' o_g rfl rfl ?_ ?_; rotate_left) | apply w_c); (focus simp (disch := first | decide | (try simp only [zz, hz]) <;> omega | fail) only [go_sem, hz, a0, a1, gM3] <;> rfl); with_reducible first | apply o_i | apply g_1 | apply g_2 | apply g_3 | apply g_4 | apply c_1 | apply c_2) | apply r_E | apply b_k | apply s_k | apply s_q)
    simp only [Then, Out, JumpL]
    refine end_mk (by simp (disch := first | decide | (try simp only [zz, hz]) <;> omega | fail) only [go_sem, hz] <;> rfl) ?_; (try simp only [resultA])
    exact ⟨⟨_, gM3, te_mkS (rd_nil _ _ _) q3 (rd_nil _ _ _) (rd_nil _ _ _) t3 (rd_nil _ _ _)⟩, h3, gg3⟩
theorem fill4_c {K : Knot} {d : Int} (hK : KOK K r b T d) (hB : ReadsL (fun _ => True) 9 r b T d 90 [.pointer (some ⟨r, 0, none⟩)] K.block) {σ : AW} {s : Sy} {M : Nat} {a : Int} (h : RdS σ r b T d s) (gM : σ.get M = ⟨1, 55, 0, [.int .i64 4, .int .i64 a, .string eB, .slice none 0 0, .slice none 0 0, .slice none 0 0, .slice none 0 0, .slice none 0 0, .slice none 0 0]⟩) (hM : M < σ.next) (hMr : M ≠ r) (hMb : M ≠ b) :
    C Tryz.prog 57 [.pointer (some ⟨r, 0, none⟩), .pointer (some ⟨M, 0, none⟩)] σ fun _ σ' => StP r b T d M σ (fillS K 4 a s) σ' := by
  have e : fillS K 4 a s = (mkS 4 a eB ((listS m_comma nameS s).1.map nameT) [] [(K.parts (wantS w_in (listS m_comma nameS s).2).2).1] [] (K.block (K.parts (wantS w_in (listS m_comma nameS s).2).2).2).1 [], (K.block (K.parts (wantS w_in (listS m_comma nameS s).2).2).2).2) := rfl
  rw [e]
  refine C_enter rfl Tryz.func57 rfl Tryz.ntmps57 Tryz.results57 (Nat.le_of_ble_eq_true rfl) ?_; intro A hz hA; have a0 := hA 0 _ rfl; have a1 := hA 1 _ rfl; clear hA
  repeat (first | apply s_R | apply o_n | ((first | apply o_p | (refine' o_g rfl rfl ?_ ?_; rotate_left) | apply w_c); (focus simp (disch := first | decide | (try simp only [zz, hz]) <;> omega | fail) only [go_sem, hz, a0, a1, gM, Int.reduceBEq] <;> rfl); with_reducible first | apply o_i | apply g_1 | apply g_2 | apply g_3 | apply g_4 | apply c_1 | apply c_2) | apply r_E | apply b_k | apply s_k | apply s_q)
  refine O_call (by simp (disch := first | decide | (try simp only [zz, hz]) <;> omega | fail) only [go_sem, hz, a0, a1] <;> rfl) ?_
  refine C.mono (listN_c m_comma h) ?_
  rintro v σ1 ⟨t1, h1, g1⟩
  obtain ⟨va, vb, vc, rfl⟩ := rd_shape t1
  have nx1 := g1.next
  have gM1 := (g1.get M hM hMr).trans gM
  have t1s : ∀ B, Rd (σ1.set M B) (fun k => σ.next ≤ k) (sl 1 ((listS m_comma nameS s).1.map nameT)) (.slice va vb vc) := fun B => t1.keep (fun j _ _ hz' => set_ne (fun e => hz' (by rw [e, gM1]))) (Nat.le_refl _) (fun _ h _ => h)
  repeat (first | apply s_R | apply o_n | ((first | apply o_p | (refine' o_g rfl rfl ?_ ?_; rotate_left) | apply w_c); (focus simp (disch := first | decide | (try simp only [zz, hz]) <;> omega | fail) only [go_sem, hz, a0, a1, gM1] <;> rfl); with_reducible first | apply o_i | apply g_1 | apply g_2 | apply g_3 | apply g_4 | apply c_1 | apply c_2) | apply r_E | apply b_k | apply s_k | apply s_q)
  refine O_call (by simp (disch := first | decide | (try simp only [zz, hz]) <;> omega | fail) only [go_sem, hz, a0, a1] <;> rfl) ?_
  have hm := h1.setM hMr hMb ⟨1, 55, 0, [.int .i64 4, .int .i64 a, .string eB, .slice va vb vc, .slice none 0 0, .slice none 0 0, .slice none 0 0, .slice none 0 0, .slice none 0 0]⟩
  refine C.mono (want_c hm w_in) ?_
  rintro _ σ2 ⟨h2, g2⟩
  have nx2 := g2.next
  simp only [set_next] at nx2
  have gM2 := (g2.get M (by first | omega | (simp only [push_next, set_next]; first | done | omega)) hMr).trans set_eq
  have ks2 := g2.ks hm.ez
  repeat (first | apply s_R | apply o_n | ((first | apply o_p | (refine' o_g rfl rfl ?_ ?_; rotate_left) | apply w_c); (focus simp (disch := first | decide | (try simp only [zz, hz]) <;> omega | fail) only [go_sem, hz, a0, a1, gM2] <;> rfl); with_reducible first | apply o_i | apply g_1 | apply g_2 | apply g_3 | apply g_4 | apply c_1 | apply c_2) | apply r_E | apply b_k | apply s_k | apply s_q)
  refine O_call (by simp (disch := first | decide | (try simp only [zz, hz]) <;> omega | fail) only [go_sem, hz, a0, a1] <;> rfl) ?_
  refine C.mono (hK.parts _ _ trivial h2) ?_
  rintro _ σ3 ⟨⟨t3, l3, rfl, hl3, ho3⟩, h3, g3⟩
  have t3 : TE 10 σ3 (fun k => σ2.next ≤ k) (.agg ⟨l3⟩) _ := ⟨t3, l3, rfl, hl3, ho3⟩
  have nx3 := g3.next
  have gM3 := (g3.get M (by omega) hMr).trans gM2
  have ks23 := ks2.trans (g3.ks h2.ez)
  have n3 := (t1s _).keep (σ' := σ3) (D' := fun k => σ.next ≤ k) (fun j _ hlt hz' => ks23.get j hlt hz') ks23.next (fun _ h _ => h)
  have st : ∀ B B1 j, j < σ3.next → (σ3.get j).esz ≠ 0 → ((σ3.push B1).set M B).get j = σ3.get j := fun B B1 j hlt hz' => (set_ne (fun e => hz' (by rw [e, gM3]))).trans (push_ne (by omega))
  have q3 : ∀ B c, Rd ((σ3.push ⟨1, 44, 1, l3⟩).set M B) (fun k => σ.next ≤ k) (sl 10 [(K.parts (wantS w_in (listS m_comma nameS s).2).2).1]) (.slice (some ⟨σ3.next, 0, none⟩) 1 c) := fun B c => rd_lit1 (e := 44) (z := 1) ((set_ne (by omega)).trans push_eq) (by decide) (by first | omega | (simp only [push_next, set_next]; first | done | omega)) (by first | omega | (simp only [push_next, set_next]; first | done | omega)) (t3.keep (fun j hj hlt hz' => st _ _ j hlt hz') (Nat.le_succ _) (fun j hj _ => by have := hj; omega))
  have n3s : ∀ B B1, Rd ((σ3.push B1).set M B) (fun k => σ.next ≤ k) (sl 1 ((listS m_comma nameS s).1.map nameT)) (.slice va vb vc) := fun B B1 => n3.keep (fun j _ hlt hz' => st _ _ j hlt hz') (Nat.le_succ _) (fun _ h _ => h)
  have pg : ∀ B1 : Blk, Gr2 r M σ3 (σ3.push B1) := fun _ => (((Kp.refl σ3).push _).gr r).two M
  have gg3 := (((g1.two M).trans (Gr2.set _)).trans (g2.two M)).trans (g3.two M)
  repeat (first | apply s_R | apply o_n | ((first | apply o_p | (refine' o_g rfl rfl ?_ ?_; rotate_left) | apply w_c); (focus simp (disch := first | decide | (try simp only [zz, hz]) <;> omega | fail) only [go_sem, hz, a0, a1, gM3, hl3, ho3] <;> rfl); with_reducible first | apply o_i | apply g_1 | apply g_2 | apply g_3 | apply g_4 | apply c_1 | apply c_2) | apply r_E | apply b_k | apply s_k | apply s_q)
  refine O_call (by simp (disch := first | decide | (try simp only [zz, hz]) <;> omega | fail) only [go_sem, hz, a0, a1] <;> rfl) ?_
  have hm4 := (h3.kp ((Kp.refl σ3).push ⟨1, 44, 1, l3⟩)).setM hMr hMb ⟨1, 55, 0, [.int .i64 4, .int .i64 a, .string eB, .slice va vb vc, .slice none 0 0, .slice (some ⟨σ3.next, 0, none⟩) 1 2, .slice none 0 0, .slice none 0 0, .slice none 0 0]⟩
  refine C.mono (hB _ _ trivial hm4) ?_
  rintro v σ4 ⟨t4, h4, g4⟩
  obtain ⟨wa, wb, wc, rfl⟩ := rd_shape t4
  have nx4 := g4.next
  simp only [set_next, push_next] at nx4
  have gM4 := (g4.get M (by first | omega | (simp only [push_next, set_next]; first | done | omega)) hMr).trans set_eq
  have ks4 := g4.ks hm4.ez
  repeat (first | apply s_R | apply o_n | ((first | apply o_p | (refine' o_g rfl rfl ?_ ?_; rotate_left) | apply w_c); (focus simp (disch := first | decide | (try simp only [zz, hz]) <;> omega | fail) only [go_sem, hz, a0, a1, gM4] <;> rfl); with_reducible first | apply o_i | apply g_1 | apply g_2 | apply g_3 | apply g_4 | apply c_1 | apply c_2) | apply r_E | apply b_k | apply s_k | apply s_q)
  simp only [Then, Out, JumpL]
  refine end_mk (by simp (disch := first | decide | (try simp only [zz, hz]) <;> omega | fail) only [go_sem, hz] <;> rfl) ?_; (try simp only [resultA])
  have sm : ∀ B j, (σ4.get j).esz ≠ 0 → (σ4.set M B).get j = σ4.get j := fun B j hz' => set_ne (fun e => hz' (by rw [e, gM4]))
  have n4 := (n3s _ _).keep (σ' := σ4) (D' := fun k => σ.next ≤ k) (fun j _ hlt hz' => ks4.get j hlt hz') g4.next (fun _ h _ => h)
  have q4 := (q3 _ 2).keep (σ' := σ4) (D' := fun k => σ.next ≤ k) (fun j _ hlt hz' => ks4.get j hlt hz') g4.next (fun _ h _ => h)
  exact ⟨⟨_, set_eq, te_mkS (n4.keep (fun j _ _ hz' => sm _ j hz') (Nat.le_refl _) (fun _ h _ => h)) (rd_nil _ _ _) (q4.keep (fun j _ _ hz' => sm _ j hz') (Nat.le_refl _) (fun _ h _ => h)) (rd_nil _ _ _) (t4.keep (fun j _ _ hz' => sm _ j hz') (Nat.le_refl _) (fun j hj _ => by have := hj; simp only [set_next, push_next] at this; omega)) (rd_nil _ _ _)⟩, h4.setM hMr hMb _, (((gg3.trans (pg _)).trans (Gr2.set _)).trans (g4.two M)).trans (Gr2.set _)⟩
theorem fillN_c {K : Knot} {d : Int} (hK : KOK K r b T d) (hY : YlK K) {σ : AW} {s : Sy} {M : Nat} {k a : Int} (n1 : k ≠ 2) (n2 : k ≠ 3) (n3 : k ≠ 4) (n4 : k ≠ 10) (h : RdS σ r b T d s) (gM : σ.get M = ⟨1, 55, 0, [.int .i64 k, .int .i64 a, .string eB, .slice none 0 0, .slice none 0 0, .slice none 0 0, .slice none 0 0, .slice none 0 0, .slice none 0 0]⟩) (hM : M < σ.next) (hMr : M ≠ r) (hMb : M ≠ b) :
    C Tryz.prog 57 [.pointer (some ⟨r, 0, none⟩), .pointer (some ⟨M, 0, none⟩)] σ fun _ σ' => StP r b T d M σ (fillS K k a s) σ' := by
  have e : fillS K k a s = ((plainS K k a s).1, (wantS m_semi (plainS K k a s).2).2) := by
    unfold fillS
    rw [if_neg n1, if_neg n2, if_neg n3, if_neg n4]
    rfl
  rw [e]
  have e1 : (k == 2) = false := by simp [n1]
  have e2 : (k == 3) = false := by simp [n2]
  have e3 : (k == 4) = false := by simp [n3]
  have e4 : (k == 10) = false := by simp [n4]
  refine C_enter rfl Tryz.func57 rfl Tryz.ntmps57 Tryz.results57 (Nat.le_of_ble_eq_true rfl) ?_; intro A hz hA; have a0 := hA 0 _ rfl; have a1 := hA 1 _ rfl; clear hA
  repeat (first | apply s_R | apply o_n | ((first | apply o_p | (refine' o_g rfl rfl ?_ ?_; rotate_left) | apply w_c); (focus simp (disch := first | decide | (try simp only [zz, hz]) <;> omega | fail) only [go_sem, hz, a0, a1, gM, e1, e2, e3, e4] <;> rfl); with_reducible first | apply o_i | apply g_1 | apply g_2 | apply g_3 | apply g_4 | apply c_1 | apply c_2) | apply r_E | apply b_k | apply s_k | apply s_q)
  refine O_call (by simp (disch := first | decide | (try simp only [zz, hz]) <;> omega | fail) only [go_sem, hz, a0, a1] <;> rfl) ?_
  refine C.mono (plain_c hK hY h gM hM hMr hMb) ?_
  rintro _ σ1 ⟨⟨l, gM1, t1⟩, h1, g1⟩
  have nx1 := g1.1
  repeat (first | apply s_R | apply o_n | ((first | apply o_p | (refine' o_g rfl rfl ?_ ?_; rotate_left) | apply w_c); (focus simp (disch := first | decide | (try simp only [zz, hz]) <;> omega | fail) only [go_sem, hz, a0, a1] <;> rfl); with_reducible first | apply o_i | apply g_1 | apply g_2 | apply g_3 | apply g_4 | apply c_1 | apply c_2) | apply r_E | apply b_k | apply s_k | apply s_q)
  refine O_call (by simp (disch := first | decide | (try simp only [zz, hz]) <;> omega | fail) only [go_sem, hz, a0, a1] <;> rfl) ?_
  refine C.mono (want_c h1 m_semi) ?_
  rintro _ σ2 ⟨h2, g2⟩
  repeat (first | apply s_R | apply o_n | ((first | apply o_p | (refine' o_g rfl rfl ?_ ?_; rotate_left) | apply w_c); (focus simp (disch := first | decide | (try simp only [zz, hz]) <;> omega | fail) only [go_sem, hz, a0, a1] <;> rfl); with_reducible first | apply o_i | apply g_1 | apply g_2 | apply g_3 | apply g_4 | apply c_1 | apply c_2) | apply r_E | apply b_k | apply s_k | apply s_q)
  simp only [Then, Out, JumpL]
  refine end_mk (by simp (disch := first | decide | (try simp only [zz, hz]) <;> omega | fail) only [go_sem, hz] <;> rfl) ?_; (try simp only [resultA])
  exact ⟨⟨l, (g2.get M (by omega) hMr).trans gM1, t1.ks (g2.ks h1.ez)⟩, h2, g1.trans (g2.two M)⟩
theorem fill_c {K : Knot} {d : Int} (hK : KOK K r b T d) (hY : YlK K) (hB : ReadsL (fun _ => True) 9 r b T d 90 [.pointer (some ⟨r, 0, none⟩)] K.block) {σ : AW} {s : Sy} {M : Nat} {k a : Int} (h : RdS σ r b T d s) (gM : σ.get M = ⟨1, 55, 0, newS k a⟩) (hM : M < σ.next) (hMr : M ≠ r) (hMb : M ≠ b) :
    C Tryz.prog 57 [.pointer (some ⟨r, 0, none⟩), .pointer (some ⟨M, 0, none⟩)] σ fun _ σ' => StP r b T d M σ (fillS K k a s) σ' := by
  by_cases n1 : k = 2
  · subst n1; exact fill2_c hK hB h gM hM hMr hMb
  by_cases n2 : k = 3
  · subst n2; exact fill3_c hK hB h gM hM hMr hMb
  by_cases n3 : k = 4
  · subst n3; exact fill4_c hK hB h gM hM hMr hMb
  by_cases n4 : k = 10
  · subst n4; exact fill10_c hK hB h gM hM hMr hMb
  exact fillN_c hK hY n1 n2 n3 n4 h gM hM hMr hMb
end
end Go.Proofs.YtckidlbmoalomaaGreatDoor


namespace Go.Proofs.YtckidlbmoalomaaGreatDoor

def Stick {α : Type} (m : SM α) : Prop := ∀ σ, σ.err ≠ 0 → (m σ).2.err = σ.err
structure Low {α : Type} (m m' : SM α) : Prop where
  a : Stick m
  b : Stick m'
  c : ∀ σ, σ.err = 0 → (m' σ).2.err = 0 → (m σ).2.err = 9 ∨ m σ = m' σ

theorem Low.refl {α : Type} {m : SM α} (h : Stick m) : Low m m := ⟨h, h, fun _ _ _ => .inr rfl⟩
theorem Stick.bind {α β : Type} {m : SM α} {k : α → SM β} (h : Stick m) (hk : ∀ a, Stick (k a)) : Stick (m >>= k) := by
  intro σ hσ
  have h1 := h σ hσ
  rw [SM.bind_run, hk _ _ (by rw [h1]; exact hσ), h1]
theorem Low.bind {α β : Type} {m m' : SM α} {k k' : α → SM β} (h : Low m m') (hk : ∀ a, Low (k a) (k' a)) : Low (m >>= k) (m' >>= k') := by
  refine ⟨h.a.bind fun a => (hk a).a, h.b.bind fun a => (hk a).b, ?_⟩
  intro σ h0 hok
  rw [SM.bind_run] at hok ⊢
  rw [SM.bind_run]
  have h1 : (m' σ).2.err = 0 := by
    by_cases hz : (m' σ).2.err = 0
    · exact hz
    · exact absurd (((hk (m' σ).1).b _ hz).symm.trans hok) hz
  rcases h.c σ h0 h1 with h9 | he
  · left
    rw [(hk (m σ).1).a _ (by rw [h9]; decide), h9]
  · rw [he]
    exact (hk (m' σ).1).c _ h1 hok
theorem Stick.pure {α : Type} (a : α) : Stick (Pure.pure a : SM α) := fun _ _ => rfl
theorem Stick.head : Stick headM := fun _ _ => rfl
theorem Stick.sees (x : ByteArray) : Stick (seesS x) := fun _ _ => rfl
theorem Stick.refuse (e : Int) : Stick (refuseS e) := by
  intro σ hσ
  simp [refuseS, hσ]
theorem Stick.take (x : ByteArray) : Stick (takeS x) := by
  intro σ _
  unfold takeS
  split <;> rfl
theorem Stick.takeKind (k : Int) : Stick (takeKindS k) := by
  intro σ _
  unfold takeKindS
  split <;> rfl
theorem Stick.takeAny (l : List ByteArray) : Stick (takeAnyS l) := by
  induction l with
  | nil => exact fun _ _ => rfl
  | cons x l ih =>
    intro σ hσ
    unfold takeAnyS
    split
    · rfl
    · exact ih σ hσ
theorem Low.ite {α : Type} {c : Prop} [Decidable c] {m m' n n' : SM α} (h : Low m m') (h' : Low n n') : Low (if c then m else n) (if c then m' else n') := by
  split
  · exact h
  · exact h'
theorem Low.pure {α : Type} (a : α) : Low (Pure.pure a : SM α) (Pure.pure a) := .refl (.pure a)
theorem Low.take (x : ByteArray) : Low (takeS x) (takeS x) := .refl (.take x)
theorem Low.sees (x : ByteArray) : Low (seesS x) (seesS x) := .refl (.sees x)
theorem Low.head : Low headM headM := .refl .head
theorem Low.refuse (e : Int) : Low (refuseS e) (refuseS e) := .refl (.refuse e)
theorem Low.takeKind (k : Int) : Low (takeKindS k) (takeKindS k) := .refl (.takeKind k)
theorem Low.takeAny (l : List ByteArray) : Low (takeAnyS l) (takeAnyS l) := .refl (.takeAny l)
theorem Low.want (x : ByteArray) : Low (wantS x) (wantS x) := (Low.take x).bind fun _ => .ite (.pure _) (.refuse _)
theorem Low.name : Low nameS nameS := Low.head.bind fun _ => .ite ((Low.refuse _).bind fun _ => .pure _) ((Low.takeKind _).bind fun _ => .ite (.pure _) ((Low.refuse _).bind fun _ => .pure _))
theorem Low.number : Low numberS numberS := Low.head.bind fun _ => (Low.takeKind _).bind fun _ => .ite (.pure _) ((Low.refuse _).bind fun _ => .pure _)
theorem Low.loop {α : Type} {s s' : α → SM (Option α)} (h : ∀ a, Low (s a) (s' a)) : ∀ (f : Nat) (x : α), Low (loopS s f x) (loopS s' f x)
  | 0, x => .pure x
  | f + 1, x => (h x).bind fun o => by
      cases o with
      | none => exact .pure x
      | some y => exact Low.loop h f y
theorem Low.while {α : Type} {s s' : α → SM (Option α)} (h : ∀ a, Low (s a) (s' a)) (x : α) : Low (whileS s x) (whileS s' x) :=
  ⟨fun σ => (Low.loop h σ.left.length x).a σ, fun σ => (Low.loop h σ.left.length x).b σ, fun σ => (Low.loop h σ.left.length x).c σ⟩
theorem Low.fromLeft {m m' : Tr → ByteArray → SM Tr} (h : ∀ a b, Low (m a b) (m' a b)) (l : List ByteArray) (x : Tr) : Low (fromLeftS m l x) (fromLeftS m' l x) :=
  Low.while (fun a => (Low.takeAny l).bind fun o => by
    cases o with
    | none => exact .pure _
    | some y => exact (h a y).bind fun _ => .pure _) x
theorem Low.each {α : Type} {r r' : SM α} (h : Low r r') (x : ByteArray) (l : List α) : Low (eachS x r l) (eachS x r' l) :=
  Low.while (fun _ => (Low.take x).bind fun _ => .ite (h.bind fun _ => .pure _) (.pure _)) l
theorem Low.list {α : Type} {r r' : SM α} (h : Low r r') (x : ByteArray) : Low (listS x r) (listS x r') := h.bind fun _ => h.each x _
theorem Low.behind {α : Type} {r r' : SM α} (h : Low r r') (x : ByteArray) : Low (behindS x r) (behindS x r') := (Low.take x).bind fun _ => .ite (h.bind fun _ => .pure _) (.pure _)
theorem Low.inBrackets {α : Type} {r r' : SM α} (h : Low r r') : Low (inBracketsS r) (inBracketsS r') := (Low.want _).bind fun _ => h.bind fun _ => (Low.want _).bind fun _ => .pure _
theorem Low.listInBrackets {α : Type} {r r' : SM α} (h : Low r r') : Low (listInBracketsS r) (listInBracketsS r') := ((Low.sees _).bind fun _ => .ite (.pure _) (h.list _)).inBrackets

structure LowK (K K' : Knot) : Prop where
  or : Low K.or K'.or
  not : Low K.not K'.not
  unary : Low K.unary K'.unary
  parts : Low K.parts K'.parts
  block : Low K.block K'.block

section
variable {K K' : Knot} (h : LowK K K')
include h
omit h in
theorem Low.operands {r r' : SM Tr} (hr : Low r r') (l : List ByteArray) : Low (operandsS r l) (operandsS r' l) := hr.bind fun _ => .fromLeft (fun _ _ => hr.bind fun _ => .pure _) _ _
theorem low_choice : Low (choiceS K) (choiceS K') := (Low.want _).bind fun _ => h.or.bind fun _ => (Low.want _).bind fun _ => h.or.bind fun _ => (Low.want _).bind fun _ => h.or.bind fun _ => (Low.want _).bind fun _ => .pure _
theorem low_gathered (s : ByteArray) : Low (gatheredS K s) (gatheredS K' s) := Low.inBrackets (.ite ((Low.take _).bind fun _ => .ite (.pure _) (h.or.bind fun _ => .pure _)) (h.or.bind fun _ => .pure _))
theorem low_named : Low (namedS K) (namedS K') := Low.name.bind fun _ => (Low.take _).bind fun _ => .ite (Low.name.bind fun _ => .pure _) (.ite ((Low.sees _).bind fun _ => .ite ((low_gathered h _).bind fun _ => .pure _) (.pure _)) (.pure _))
theorem low_bracketed : Low (bracketedS K) (bracketedS K') := (Low.sees _).bind fun _ => .ite (h.parts.bind fun _ => .pure _) h.or
theorem low_prim : Low (primS K) (primS K') := Low.head.bind fun _ => (Low.takeKind _).bind fun _ => .ite (.pure _) ((Low.takeKind _).bind fun _ => .ite (.pure _) ((Low.take _).bind fun _ => .ite (.pure _) ((Low.take _).bind fun _ => .ite (.pure _) ((Low.take _).bind fun _ => .ite (.pure _) ((Low.take _).bind fun _ => .ite (Low.name.bind fun _ => .pure _) ((Low.take _).bind fun _ => .ite (low_choice h) ((Low.take _).bind fun _ => .ite (h.parts.inBrackets.bind fun _ => .pure _) ((Low.sees _).bind fun _ => .ite (low_bracketed h).inBrackets (low_named h)))))))))
theorem low_unary : Low (unaryS K) (unaryS K') := (Low.take _).bind fun _ => .ite (h.unary.bind fun _ => .pure _) (low_prim h)
theorem low_product : Low (productS K) (productS K') := Low.operands (low_unary h) _
theorem low_sum : Low (sumS K) (sumS K') := Low.operands (low_product h) _
theorem low_in (x : Tr) (n : Int) : Low (inS K x n) (inS K' x n) := (Low.want _).bind fun _ => h.parts.inBrackets.bind fun _ => .pure _
theorem low_compared : Low (comparedS K) (comparedS K') := (low_sum h).bind fun _ => (Low.takeAny _).bind fun o => by
  cases o with
  | some m => exact (low_sum h).bind fun _ => .pure _
  | none => exact (Low.take _).bind fun _ => .ite ((Low.take _).bind fun _ => (Low.want _).bind fun _ => .pure _) ((Low.take _).bind fun _ => .ite (low_in h _ _) ((Low.sees _).bind fun _ => .ite (low_in h _ _) (.pure _)))
theorem low_not : Low (notS K) (notS K') := (Low.take _).bind fun _ => .ite (h.not.bind fun _ => .pure _) (low_compared h)
theorem low_and : Low (andS K) (andS K') := Low.operands (low_not h) _
theorem low_or : Low (orS K) (orS K') := Low.operands (low_and h) _
theorem low_item : Low (itemS K) (itemS K') := h.or.bind fun _ => (Low.want _).bind fun _ => Low.name.bind fun _ => .pure _
theorem low_key : Low (keyS K) (keyS K') := h.or.bind fun _ => (Low.take _).bind fun _ => .pure _
theorem low_one : Low (oneS K) (oneS K') := (Low.sees _).bind fun _ => .ite (h.parts.inBrackets.bind fun _ => (Low.want _).bind fun _ => Low.name.bind fun _ => .pure _) (Low.name.bind fun _ => (Low.take _).bind fun _ => (Low.take _).bind fun _ => .ite (Low.name.bind fun _ => .pure _) (.pure _))
theorem low_join (x : Tr) (n : Int) : Low (joinS K x n) (joinS K' x n) := (low_one h).bind fun _ => (Low.want _).bind fun _ => h.or.bind fun _ => .pure _
theorem low_source : Low (sourceS K) (sourceS K') := (low_one h).bind fun _ => .fromLeft (fun _ _ => .ite ((Low.want _).bind fun _ => low_join h _ _) (low_join h _ _)) _ _
theorem low_group : Low (groupS K) (groupS K') := (Low.take _).bind fun _ => .ite ((Low.want _).bind fun _ => (h.or.list _).bind fun _ => (h.or.behind _).bind fun _ => .pure _) (.pure _)
theorem low_order : Low (orderS K) (orderS K') := (Low.take _).bind fun _ => .ite ((Low.want _).bind fun _ => (low_key h).list _) (.pure _)
omit h in
theorem low_limit : Low limitS limitS := (Low.take _).bind fun _ => .ite .number (.pure _)
theorem low_part : Low (partS K) (partS K') := (Low.sees _).bind fun _ => .ite h.parts.inBrackets ((Low.want _).bind fun _ => (Low.take _).bind fun _ => ((low_item h).list _).bind fun _ => ((low_source h).behind _).bind fun _ => (h.or.behind _).bind fun _ => (low_group h).bind fun _ => (low_order h).bind fun _ => low_limit.bind fun _ => .pure _)
omit h in
theorem low_together (s : ByteArray) : Low (togetherS s) (togetherS s) := .ite (.pure _) (.ite (.pure _) ((Low.take _).bind fun _ => .ite (.pure _) (.pure _)))
theorem low_parts : Low (partsS K) (partsS K') := (low_part h).bind fun _ => .fromLeft (fun _ _ => (low_together _).bind fun _ => (low_part h).bind fun _ => .pure _) _ _
theorem low_assigned : Low (assignedS K) (assignedS K') := Low.name.bind fun _ => (Low.want _).bind fun _ => h.or.bind fun _ => .pure _
theorem low_plain (k a : Int) : Low (plainS K k a) (plainS K' k a) :=
  .ite ((low_assigned h).bind fun _ => .pure _) (.ite (Low.name.bind fun _ => .pure _) (.ite (Low.name.bind fun _ => h.or.bind fun _ => .pure _)
  (.ite ((Low.want _).bind fun _ => Low.name.bind fun _ => (Low.take _).bind fun _ => .ite ((h.or.list _).inBrackets.bind fun _ => .pure _) (h.parts.bind fun _ => .pure _))
  (.ite (Low.name.bind fun _ => (Low.want _).bind fun _ => ((low_assigned h).list _).bind fun _ => (h.or.behind _).bind fun _ => .pure _)
  (.ite ((Low.want _).bind fun _ => Low.name.bind fun _ => (h.or.behind _).bind fun _ => .pure _)
  (.ite (Low.name.bind fun _ => h.or.listInBrackets.bind fun _ => .pure _) (.pure _)))))))
theorem low_fill (k a : Int) : Low (fillS K k a) (fillS K' k a) :=
  .ite (h.or.bind fun _ => h.block.bind fun _ => (Low.take _).bind fun _ => .ite (h.block.bind fun _ => .pure _) (.pure _))
  (.ite (h.or.bind fun _ => h.block.bind fun _ => .pure _)
  (.ite ((Low.name.list _).bind fun _ => (Low.want _).bind fun _ => h.parts.bind fun _ => h.block.bind fun _ => .pure _)
  (.ite (h.block.bind fun _ => (Low.want _).bind fun _ => h.block.bind fun _ => .pure _)
  ((low_plain h _ _).bind fun _ => (Low.want _).bind fun _ => .pure _))))
theorem low_stmts : Low (stmtsS K) (stmtsS K') :=
  Low.while (fun _ => Low.head.bind fun _ => .ite (.pure _) ((Low.takeKind _).bind fun _ => .ite ((low_fill h _ _).bind fun _ => .pure _) (.pure _))) _
theorem low_block : Low (blockS K) (blockS K') := (Low.want _).bind fun _ => (low_stmts h).bind fun _ => (Low.want _).bind fun _ => .pure _
theorem low_next (n : Nat) (hk : K = knot n) {m : Nat} (hk' : K' = knot m) : LowK (knot (n + 1)) (knot (m + 1)) := by
  subst hk; subst hk'
  exact ⟨low_or h, low_not h, low_unary h, low_parts h, low_block h⟩
end
theorem Stick.tooDeep {α : Type} (z : α) : Stick (Go.Proofs.YtckidlbmoalomaaGreatDoor.tooDeep z) := (Stick.refuse 9).bind fun _ => .pure z
theorem Low.deep {α : Type} (z : α) {m : SM α} (h : Stick m) : Low (Go.Proofs.YtckidlbmoalomaaGreatDoor.tooDeep z) m :=
  ⟨.tooDeep z, h, fun σ h0 _ => .inl (by simp [Go.Proofs.YtckidlbmoalomaaGreatDoor.tooDeep, SM.bind_run, SM.pure_run, refuseS, h0])⟩
theorem low_self : ∀ n : Nat, LowK (knot n) (knot n)
  | 0 => ⟨.refl (.tooDeep _), .refl (.tooDeep _), .refl (.tooDeep _), .refl (.tooDeep _), .refl (.tooDeep _)⟩
  | n + 1 => low_next (low_self n) n rfl rfl
theorem low_knot : ∀ n : Nat, LowK (knot n) (knot (n + 1))
  | 0 => ⟨.deep _ (low_self 1).or.a, .deep _ (low_self 1).not.a, .deep _ (low_self 1).unary.a, .deep _ (low_self 1).parts.a, .deep _ (low_self 1).block.a⟩
  | n + 1 => low_next (low_knot n) n rfl rfl
end Go.Proofs.YtckidlbmoalomaaGreatDoor


namespace Go.Proofs.YtckidlbmoalomaaGreatDoor

def shT (d : Int) (t : Tk) : Tk := (t.1, t.2.1, t.2.2.1, t.2.2.2 + d)
structure Tail where
  d : Int
  h : Tk
  r : List Tk
def Tail.R (T : Tail) (σ σ' : Sy) : Prop := ∃ A e, σ.left = A ++ [e] ∧ (e.1 = 0 ∧ ∀ a ∈ A, a.1 ≠ 0) ∧ e.2.1 = eB ∧ σ'.left = A.map (shT T.d) ++ T.h :: T.r ∧ σ.err = 0 ∧ σ'.err = 0
def Tail.No (T : Tail) (x : ByteArray) : Prop := (decide (T.h.2.1 = x) && (T.h.1 == 1 || T.h.1 == 4)) = false
structure Sim (T : Tail) {α β : Type} (V : α → β → Prop) (m : SM α) (m' : SM β) : Prop where
  st : Stick m
  mono : ∀ σ, (m σ).2.left.length ≤ σ.left.length
  sim : ∀ σ σ', T.R σ σ' → (m σ).2.err = 0 → V (m σ).1 (m' σ').1 ∧ T.R (m σ).2 (m' σ').2

theorem want_run (x : ByteArray) (σ : Sy) : wantS x σ = if seesB x σ = true then ((), ⟨σ.left.tail, σ.pl, σ.err⟩) else refuseS 10 σ := by
  show (fun r : Bool × Sy => (if r.1 = true then (Pure.pure () : SM Unit) else refuseS 10) r.2) (takeS x σ) = _
  unfold takeS
  by_cases h : seesB x σ = true
  · rw [if_pos h, if_pos h]; rfl
  · rw [if_neg h, if_neg h]; rfl
theorem kind_run {α : Type} (k : Int) (f g : SM α) (σ : Sy) : (takeKindS k >>= fun b => if b = true then f else g) σ = if σ.head.1 = k then f ⟨σ.left.tail, σ.pl, σ.err⟩ else g σ := by
  show (fun r : Bool × Sy => (if r.1 = true then f else g) r.2) (takeKindS k σ) = _
  unfold takeKindS
  by_cases h : σ.head.1 = k
  · rw [if_pos h, if_pos h]; rfl
  · rw [if_neg h, if_neg h]; rfl
section
variable {T : Tail}
theorem Sim.bind {α α' β β' : Type} {V : α → α' → Prop} {W : β → β' → Prop} {m : SM α} {m' : SM α'} {k : α → SM β} {k' : α' → SM β'} (h : Sim T V m m') (hs : ∀ a, Stick (k a)) (hm : ∀ a σ, (k a σ).2.left.length ≤ σ.left.length) (hk : ∀ a a', V a a' → Sim T W (k a) (k' a')) : Sim T W (m >>= k) (m' >>= k') := by
  refine ⟨h.st.bind hs, fun σ => Nat.le_trans (hm _ _) (h.mono σ), ?_⟩
  intro σ σ' hR hok
  rw [SM.bind_run] at hok ⊢
  rw [SM.bind_run]
  have h1 : (m σ).2.err = 0 := by
    by_cases hz : (m σ).2.err = 0
    · exact hz
    · exact absurd ((hs (m σ).1 _ hz).symm.trans hok) hz
  obtain ⟨hv, hr⟩ := h.sim σ σ' hR h1
  exact (hk _ _ hv).sim _ _ hr hok
theorem Sim.seq {α β β' : Type} {W : β → β' → Prop} {m m' : SM α} {k : α → SM β} {k' : α → SM β'} (h : Sim T Eq m m') (hk : ∀ a, Sim T W (k a) (k' a)) : Sim T W (m >>= k) (m' >>= k') :=
  h.bind (fun a => (hk a).st) (fun a => (hk a).mono) (fun a _ e => e ▸ hk a)
theorem Sim.pure' {α β : Type} {V : α → β → Prop} {a : α} {b : β} (h : V a b) : Sim T V (Pure.pure a) (Pure.pure b) := ⟨.pure a, fun _ => Nat.le_refl _, fun _ _ hR _ => ⟨h, hR⟩⟩
theorem Sim.pure {α : Type} (a : α) : Sim T Eq (Pure.pure a : SM α) (Pure.pure a) := .pure' rfl
theorem sees_lt {x : ByteArray} {σ : Sy} (h : seesB x σ = true) : σ.left.tail.length < σ.left.length := by
  obtain ⟨l, p, e⟩ := σ
  cases l with
  | nil => simp [seesB, Sy.head, endT] at h
  | cons a l => simp
theorem tail_le (l : List Tk) : l.tail.length ≤ l.length := by simp
theorem Tail.R.sees {x : ByteArray} (hx : T.No x) {σ σ' : Sy} (hR : T.R σ σ') : seesB x σ = seesB x σ' := by
  obtain ⟨A, e, h1, he, hb, h2, _, _⟩ := hR
  cases A with
  | nil =>
    have hb' : seesB x σ = false := by simp [seesB, Sy.head, h1, he.1]
    rw [hb']
    simp only [seesB, Sy.head, h2]
    exact hx.symm
  | cons a A => simp [seesB, Sy.head, h1, h2, shT]
theorem Tail.R.tail {σ σ' : Sy} (hR : T.R σ σ') (h : σ.head.1 ≠ 0) : T.R ⟨σ.left.tail, σ.pl, σ.err⟩ ⟨σ'.left.tail, σ'.pl, σ'.err⟩ ∧ σ'.head = shT T.d σ.head := by
  obtain ⟨A, e, h1, he, hb, h2, h3, h4⟩ := hR
  cases A with
  | nil => exact absurd (by simp [Sy.head, h1, he.1]) h
  | cons a A => exact ⟨⟨A, e, by simp [h1], ⟨he.1, fun b hb => he.2 b (List.mem_cons_of_mem _ hb)⟩, hb, by simp [h2], h3, h4⟩, by simp [Sy.head, h1, h2]⟩
theorem sees_ne {x : ByteArray} {σ : Sy} (h : seesB x σ = true) : σ.head.1 ≠ 0 := by
  intro h0
  simp [seesB, h0] at h
theorem Sim.sees {x : ByteArray} (hx : T.No x) : Sim T Eq (seesS x) (seesS x) := ⟨.sees x, fun _ => Nat.le_refl _, fun _ _ hR _ => ⟨hR.sees hx, hR⟩⟩
theorem Sim.take {x : ByteArray} (hx : T.No x) : Sim T Eq (takeS x) (takeS x) := by
  refine ⟨.take x, ?_, ?_⟩
  · intro σ
    unfold takeS
    split
    · exact tail_le _
    · exact Nat.le_refl _
  · intro σ σ' hR _
    unfold takeS
    rw [← hR.sees hx]
    split
    · exact ⟨rfl, (hR.tail (sees_ne (by assumption))).1⟩
    · exact ⟨rfl, hR⟩
theorem Sim.takeAny {l : List ByteArray} (hl : ∀ x ∈ l, T.No x) : Sim T Eq (takeAnyS l) (takeAnyS l) := by
  refine ⟨.takeAny l, ?_, ?_⟩
  · intro σ
    induction l with
    | nil => exact Nat.le_refl _
    | cons x l ih =>
      unfold takeAnyS
      split
      · exact tail_le _
      · exact ih fun y hy => hl y (List.mem_cons_of_mem _ hy)
  · intro σ σ' hR hh
    clear hh
    induction l with
    | nil => exact ⟨rfl, hR⟩
    | cons x l ih =>
      unfold takeAnyS
      rw [← hR.sees (hl x (List.mem_cons_self ..))]
      split
      · exact ⟨rfl, (hR.tail (sees_ne (by assumption))).1⟩
      · exact ih (fun y hy => hl y (List.mem_cons_of_mem _ hy))
theorem refuse_err {e : Int} (he : e ≠ 0) (σ : Sy) : ((refuseS e) σ).2.err ≠ 0 := by
  unfold refuseS
  split
  · exact he
  · assumption
theorem Sim.refuse {e : Int} (he : e ≠ 0) {β : Type} {V : Unit → β → Prop} {m' : SM β} : Sim T V (refuseS e) m' :=
  ⟨.refuse e, fun σ => by unfold refuseS; split <;> simp, fun σ _ _ h => absurd h (refuse_err he σ)⟩
theorem Sim.never {α β : Type} {V : α → β → Prop} {m : SM α} {m' : SM β} (h1 : Stick m) (h2 : ∀ σ, (m σ).2.left.length ≤ σ.left.length) (h3 : ∀ σ, (m σ).2.err ≠ 0) : Sim T V m m' := ⟨h1, h2, fun σ _ _ h => absurd h (h3 σ)⟩
theorem Sim.want (x : ByteArray) : Sim T Eq (wantS x) (wantS x) := by
  refine ⟨(Low.want x).a, ?_, ?_⟩
  · intro σ
    rw [want_run]
    split
    · exact tail_le _
    · simp only [refuseS]
      split <;> simp
  · intro σ σ' hR hok
    rw [want_run] at hok
    have hs : seesB x σ = true := by
      by_cases h : seesB x σ = true
      · exact h
      · rw [if_neg h] at hok
        exact absurd hok (refuse_err (by decide) σ)
    have ht := hR.tail (sees_ne hs)
    have hs' : seesB x σ' = true := by
      rw [← hs]
      simp [seesB, ht.2, shT]
    rw [want_run, want_run, if_pos hs, if_pos hs']
    exact ⟨rfl, ht.1⟩
def Tail.V (T : Tail) (a b : Option Tk) : Prop := b = a.map (shT T.d)
theorem Stick.name : Stick nameS := Low.name.a
theorem Sim.name : Sim T Eq nameS nameS := by
  have hrun : ∀ σ : Sy, nameS σ = if wordB σ.head.2.1 = true ∨ ¬ σ.head.1 = 1 then (eB, ((refuseS 10) σ).2) else (σ.head.2.1, ⟨σ.left.tail, σ.pl, σ.err⟩) := by
    intro σ
    have h1 : nameS σ = (if wordB σ.head.2.1 = true then (refuseS 10 >>= fun _ => Pure.pure eB) else (takeKindS 1 >>= fun b => if b = true then Pure.pure σ.head.2.1 else (refuseS 10 >>= fun _ => Pure.pure eB)) : SM ByteArray) σ := rfl
    rw [h1]
    by_cases hw : wordB σ.head.2.1 = true
    · rw [if_pos hw, if_pos (.inl hw)]; rfl
    · rw [if_neg hw, kind_run]
      by_cases hk : σ.head.1 = 1
      · rw [if_pos hk, if_neg (by simp [hw, hk])]; rfl
      · rw [if_neg hk, if_pos (.inr hk)]; rfl
  refine ⟨.name, ?_, ?_⟩
  · intro σ
    rw [hrun]
    split
    · simp only [refuseS]
      split <;> simp
    · exact tail_le _
  · intro σ σ' hR hok
    rw [hrun] at hok
    by_cases hc : wordB σ.head.2.1 = true ∨ ¬ σ.head.1 = 1
    · rw [if_pos hc] at hok
      exact absurd hok (refuse_err (by decide) σ)
    · have h1 : σ.head.1 = 1 := by
        by_cases h : σ.head.1 = 1
        · exact h
        · exact absurd (.inr h) hc
      have ht := hR.tail (by rw [h1]; decide)
      have hc' : ¬ (wordB σ'.head.2.1 = true ∨ ¬ σ'.head.1 = 1) := by rw [ht.2]; exact hc
      rw [hrun, hrun, if_neg hc, if_neg hc']
      exact ⟨by simp [ht.2, shT], ht.1⟩
theorem Sim.number : Sim T Eq numberS numberS := by
  have hrun : ∀ σ : Sy, numberS σ = if ¬ σ.head.1 = 2 then (0, ((refuseS 10) σ).2) else (σ.head.2.2.1, ⟨σ.left.tail, σ.pl, σ.err⟩) := by
    intro σ
    have h1 : numberS σ = (takeKindS 2 >>= fun b => if b = true then Pure.pure σ.head.2.2.1 else (refuseS 10 >>= fun _ => Pure.pure 0) : SM Int) σ := rfl
    rw [h1, kind_run]
    by_cases hk : σ.head.1 = 2
    · rw [if_pos hk, if_neg (by simp [hk])]; rfl
    · rw [if_neg hk, if_pos hk]; rfl
  refine ⟨Low.number.a, ?_, ?_⟩
  · intro σ
    rw [hrun]
    split
    · simp only [refuseS]
      split <;> simp
    · exact tail_le _
  · intro σ σ' hR hok
    rw [hrun] at hok
    by_cases hc : ¬ σ.head.1 = 2
    · rw [if_pos hc] at hok
      exact absurd hok (refuse_err (by decide) σ)
    · have h1 : σ.head.1 = 2 := Classical.not_not.1 hc
      have ht := hR.tail (by rw [h1]; decide)
      have hc' : ¬ ¬ σ'.head.1 = 2 := by rw [ht.2]; exact hc
      rw [hrun, hrun, if_neg hc, if_neg hc']
      exact ⟨by simp [ht.2, shT], ht.1⟩
theorem Sim.ite {α β : Type} {V : α → β → Prop} {c : Prop} [Decidable c] {m n : SM α} {m' n' : SM β} (h : Sim T V m m') (h' : Sim T V n n') : Sim T V (if c then m else n) (if c then m' else n') := by
  split
  · exact h
  · exact h'
def OptV {α β : Type} (V : α → β → Prop) : Option α → Option β → Prop
  | none, none => True
  | some a, some b => V a b
  | _, _ => False
theorem Sim.loop {α β : Type} {V : α → β → Prop} {s : α → SM (Option α)} {s' : β → SM (Option β)} (h : ∀ a b, V a b → Sim T (OptV V) (s a) (s' b)) (hst : ∀ a, Stick (s a)) (hlt : ∀ a σ b, (s a σ).1 = some b → (s a σ).2.left.length < σ.left.length) :
    ∀ (f f' : Nat) (a : α) (b : β) (σ σ' : Sy), V a b → T.R σ σ' → σ.left.length ≤ f → σ.left.length ≤ f' → (loopS s f a σ).2.err = 0 → V (loopS s f a σ).1 (loopS s' f' b σ').1 ∧ T.R (loopS s f a σ).2 (loopS s' f' b σ').2 := by
  have hls : ∀ (f : Nat) (a : α), Stick (loopS s f a) := fun f a => (Low.loop (fun a => Low.refl (hst a)) f a).a
  intro f
  induction f with
  | zero =>
    intro f' a b σ σ' _ hR hf
    obtain ⟨A, e, h1, _⟩ := hR
    simp [h1] at hf
  | succ f ih =>
    intro f' a b σ σ' hV hR hf hf' hok
    obtain _ | f' := f'
    · obtain ⟨A, e, h1, _⟩ := hR
      simp [h1] at hf'
    · simp only [loopS, SM.bind_run] at hok ⊢
      have h1 : (s a σ).2.err = 0 := by
        by_cases hz : (s a σ).2.err = 0
        · exact hz
        · cases ho : (s a σ).1 with
          | none => rw [ho] at hok; exact hok
          | some y =>
            rw [ho] at hok
            exact absurd ((hls f y _ hz).symm.trans hok) hz
      obtain ⟨hv, hr⟩ := (h a b hV).sim σ σ' hR h1
      have hl := hlt a σ
      cases ho : (s a σ).1 with
      | none =>
        cases ho' : (s' b σ').1 with
        | none => exact ⟨hV, hr⟩
        | some z => rw [ho, ho'] at hv; exact hv.elim
      | some y =>
        cases ho' : (s' b σ').1 with
        | none => rw [ho, ho'] at hv; exact hv.elim
        | some z =>
          rw [ho, ho'] at hv
          rw [ho] at hok
          have := hl y ho
          exact ih f' y z _ _ hv hr (by omega) (by omega) hok
end
end Go.Proofs.YtckidlbmoalomaaGreatDoor
