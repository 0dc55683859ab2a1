/- The program's reader: what a statement is filled with. The program's reader: statements without blocks. -/
import Derived.Test.YtckidlbmoalomaaGreatDoorJ22
import Derived.Test.YtckidlbmoalomaaGreatDoorJ20


namespace Go.Proofs.YtckidlbmoalomaaGreatDoor
open Go.RowKit
set_option maxRecDepth 10000
set_option linter.unusedSimpArgs false
set_option linter.unusedVariables false

theorem te_mkS {σ : AW} {D : Nat → Prop} {k a : Int} {tb : ByteArray} {names es qs wh body other : List Tr} {v1 v2 v3 v4 v5 v6 : Value} (h1 : Rd σ D (sl 1 names) v1) (h2 : Rd σ D (sl 6 es) v2) (h3 : Rd σ D (sl 10 qs) v3) (h4 : Rd σ D (sl 6 wh) v4) (h5 : Rd σ D (sl 9 body) v5) (h6 : Rd σ D (sl 9 other) v6) :
    TE 9 σ D (.agg ⟨[.int .i64 k, .int .i64 a, .string tb, v1, v2, v3, v4, v5, v6]⟩) (mkS k a tb names es qs wh body other) :=
  ⟨rd_agg.2 ⟨_, rfl, _, _, rfl, rfl, _, _, rfl, rfl, _, _, rfl, rfl, _, _, rfl, h1, _, _, rfl, h2, _, _, rfl, h3, _, _, rfl, h4, _, _, rfl, h5, _, _, rfl, h6, rfl⟩, _, rfl, rfl, by simp only [List.all_cons, List.all_nil, rd_one h1, rd_one h2, rd_one h3, rd_one h4, rd_one h5, rd_one h6]; rfl⟩
def Gr2 (r M : Nat) (σ σ' : AW) : Prop := σ.next ≤ σ'.next ∧ ∀ k, k < σ.next → k ≠ r → k ≠ M → σ'.get k = σ.get k
theorem Gr.two {r : Nat} {σ σ' : AW} (h : Gr r σ σ') (M : Nat) : Gr2 r M σ σ' := ⟨h.next, fun k h1 h2 _ => h.get k h1 h2⟩
theorem Gr2.trans {r M : Nat} {σ σ1 σ2 : AW} (h : Gr2 r M σ σ1) (k : Gr2 r M σ1 σ2) : Gr2 r M σ σ2 := ⟨Nat.le_trans h.1 k.1, fun j h1 h2 h3 => (k.2 j (Nat.lt_of_lt_of_le h1 h.1) h2 h3).trans (h.2 j h1 h2 h3)⟩
theorem Gr2.set {r M : Nat} {σ : AW} (B : Blk) : Gr2 r M σ (σ.set M B) := ⟨Nat.le_refl _, fun _ _ _ h => set_ne h⟩
theorem RdS.setM {σ : AW} {r b : Nat} {T : List Tk} {d : Int} {s : Sy} (h : RdS σ r b T d s) {M : Nat} (h1 : M ≠ r) (h2 : M ≠ b) (B : Blk) : RdS (σ.set M B) r b T d s := by
  obtain ⟨i, q1, q2⟩ := h
  exact ⟨i, { q1 with get := (set_ne (Ne.symm h1)).trans q1.get, toks := (set_ne (Ne.symm h2)).trans q1.toks }, q2⟩
def StP (r b : Nat) (T : List Tk) (d : Int) (M : Nat) (σ : AW) (p : Tr × Sy) (σ' : AW) : Prop := (∃ l, σ'.get M = ⟨1, 55, 0, l⟩ ∧ TE 9 σ' (fun k => σ.next ≤ k) (.agg ⟨l⟩) p.1) ∧ RdS σ' r b T d p.2 ∧ Gr2 r M σ σ'
def insertS (K : Knot) (a : Int) (s : ByteArray) : SM Tr := do
  if ← takeS w_values then do
    let l ← inBracketsS (listS m_comma K.or)
    pure (mkS 6 a s [] l [] [] [] [])
  else do
    let q ← K.parts
    pure (mkS 7 a s [] [] [q] [] [] [])
theorem insert_eq (K : Knot) (a : Int) (s : ByteArray) (σ : Sy) : insertS K a s σ = if (takeS w_values σ).1 = true then (mkS 6 a s [] (inBracketsS (listS m_comma K.or) (takeS w_values σ).2).1 [] [] [] [], (inBracketsS (listS m_comma K.or) (takeS w_values σ).2).2) else (mkS 7 a s [] [] [(K.parts (takeS w_values σ).2).1] [] [] [], (K.parts (takeS w_values σ).2).2) := by
  unfold insertS
  rw [take_eq]
  split <;> rfl
section
variable {r b : Nat} {T : List Tk}
theorem insert1_c {K : Knot} {d : Int} (hK : KOK K r b T d) (k0 : Nat) :
    ReadsL (fun σ => σ.get k0 = ⟨1, 50, 0, [.pointer (some ⟨r, 0, none⟩)]⟩ ∧ k0 < σ.next ∧ k0 ≠ r) 6 r b T d 111 ([] ++ [.pointer (some ⟨k0, 0, none⟩)]) (listS m_comma K.or) := by
  intro σ s he h
  obtain ⟨g0, n0, r0⟩ := he
  refine C_enter rfl Tryz.func111 rfl Tryz.ntmps111 Tryz.results111 (Nat.le_of_ble_eq_true rfl) ?_; intro A hz hA; have a0 := hA 0 _ rfl; clear hA
  repeat (first | apply s_R | apply o_n | ((first | apply o_p | (refine' o_g rfl rfl ?_ ?_; rotate_left) | apply w_c); (focus simp (disch := first | decide | (try simp only [zz, hz]) <;> omega | fail) only [go_sem, hz, a0, g0] <;> rfl); with_reducible first | apply o_i | apply g_1 | apply g_2 | apply g_3 | apply g_4 | apply c_1 | apply c_2) | apply r_E | apply b_k | apply s_k | apply s_q)
  refine O_call (by simp (disch := first | decide | (try simp only [zz, hz]) <;> omega | fail) only [go_sem, hz, a0] <;> rfl) ?_
  refine C.mono (listE_c (fs := [.pointer (some ⟨r, 0, none⟩)]) (cs := []) stable_true hK.sh.or hK.or m_comma _ _ trivial h) ?_
  rintro v σ2 ⟨t2, h2, g2⟩
  repeat (first | apply s_R | apply o_n | ((first | apply o_p | (refine' o_g rfl rfl ?_ ?_; rotate_left) | apply w_c); (focus simp (disch := first | decide | (try simp only [zz, hz]) <;> omega | fail) only [go_sem, hz] <;> rfl); with_reducible first | apply o_i | apply g_1 | apply g_2 | apply g_3 | apply g_4 | apply c_1 | apply c_2) | apply r_E | apply b_k | apply s_k | apply s_q)
  refine W_ret ?_; (try simp only [Then, Out, Jump, JumpL]); refine ret_mk (by simp (disch := first | decide | (try simp only [zz, hz]) <;> omega | fail) only [go_sem, hz] <;> rfl) ?_; (try simp only [resultA])
  exact ⟨t2, h2, g2⟩
theorem insert_c {K : Knot} {d : Int} (hK : KOK K r b T d) {σ : AW} {s : Sy} {M : Nat} {a : Int} {tb : ByteArray} (h : RdS σ r b T d s) (gM : σ.get M = ⟨1, 55, 0, [.int .i64 6, .int .i64 a, .string tb, .slice none 0 0, .slice none 0 0, .slice none 0 0, .slice none 0 0, .slice none 0 0, .slice none 0 0]⟩) (hM : M < σ.next) (hMr : M ≠ r) (hMb : M ≠ b) :
    C Tryz.prog 106 [.pointer (some ⟨r, 0, none⟩), .pointer (some ⟨M, 0, none⟩)] σ fun _ σ' => StP r b T d M σ (insertS K a tb s) σ' := by
  have hlr := h.lr
  have hlb := h.lb
  rw [insert_eq]
  refine C_enter rfl Tryz.func106 rfl Tryz.ntmps106 Tryz.results106 (Nat.le_of_ble_eq_true rfl) ?_; intro A hz hA; have a0 := hA 0 _ rfl; have a1 := hA 1 _ rfl; clear hA
  repeat (first | apply s_R | apply o_n | ((first | apply o_p | (refine' o_g rfl rfl ?_ ?_; rotate_left) | apply w_c); (focus simp (disch := first | decide | (try simp only [zz, hz]) <;> omega | fail) only [go_sem, hz, a0, a1] <;> rfl); with_reducible first | apply o_i | apply g_1 | apply g_2 | apply g_3 | apply g_4 | apply c_1 | apply c_2) | apply r_E | apply b_k | apply s_k | apply s_q)
  refine O_call (by simp (disch := first | decide | (try simp only [zz, hz]) <;> omega | fail) only [go_sem, hz, a0, a1] <;> rfl) ?_
  refine C.mono (take_c (h.kp ((Kp.refl σ).push _)) w_values) ?_
  rintro _ σ1 ⟨rfl, h1, g1⟩
  have nx1 := g1.next
  simp only [push_next] at nx1
  have gN1 := (g1.get σ.next (by first | omega | (simp only [push_next, set_next]; first | done | omega)) (by omega)).trans push_eq
  have gM1 := (g1.get M (by first | omega | (simp only [push_next, set_next]; first | done | omega)) hMr).trans ((push_ne (by omega)).trans gM)
  replace g1 := g1.unpush
  cases c : (takeS w_values s).1 with
  | true =>
    rw [if_pos rfl]
    repeat (first | apply s_R | apply o_n | ((first | apply o_p | (refine' o_g rfl rfl ?_ ?_; rotate_left) | apply w_c); (focus simp (disch := first | decide | (try simp only [zz, hz]) <;> omega | fail) only [go_sem, hz, a0, a1, gN1] <;> rfl); with_reducible first | apply o_i | apply g_1 | apply g_2 | apply g_3 | apply g_4 | apply c_1 | apply c_2) | apply r_E | apply b_k | apply s_k | apply s_q)
    refine O_call (by simp (disch := first | decide | (try simp only [zz, hz]) <;> omega | fail) only [go_sem, hz, a0, a1, gN1] <;> rfl) ?_
    refine C.mono (inbLE_c (fs := []) (cs := [.pointer (some ⟨σ.next, 0, none⟩)]) (fun τ τ' he g => ⟨(g.get _ he.2.1 he.2.2).trans he.1, Nat.lt_of_lt_of_le he.2.1 g.next, he.2.2⟩) (insert1_c hK σ.next) _ _ ⟨gN1, by omega, by omega⟩ h1) ?_
    rintro v σ2 ⟨t2, h2, g2⟩
    obtain ⟨va, vb, vc, rfl⟩ := rd_shape t2
    have nx2 := g2.next
    have gM2 := (g2.get M (by omega) hMr).trans gM1
    repeat (first | apply s_R | apply o_n | ((first | apply o_p | (refine' o_g rfl rfl ?_ ?_; rotate_left) | apply w_c); (focus simp (disch := first | decide | (try simp only [zz, hz]) <;> omega | fail) only [go_sem, hz, a0, a1, gM2] <;> rfl); with_reducible first | apply o_i | apply g_1 | apply g_2 | apply g_3 | apply g_4 | apply c_1 | apply c_2) | apply r_E | apply b_k | apply s_k | apply s_q)
    refine W_ret ?_; (try simp only [Then, Out, Jump, JumpL]); refine ret_mk (by simp (disch := first | decide | (try simp only [zz, hz]) <;> omega | fail) only [go_sem, hz] <;> rfl) ?_; (try simp only [resultA])
    exact ⟨⟨_, set_eq, te_mkS (rd_nil _ _ _) ((t2.keep (fun j hj hlt hz' => set_ne (by have := hj; omega)) (Nat.le_refl _) (fun j hj _ => by have := hj; omega))) (rd_nil _ _ _) (rd_nil _ _ _) (rd_nil _ _ _) (rd_nil _ _ _)⟩, h2.setM hMr hMb _, ((g1.trans g2).two M).trans (Gr2.set _)⟩
  | false =>
    rw [if_neg (by simp)]
    repeat (first | apply s_R | apply o_n | ((first | apply o_p | (refine' o_g rfl rfl ?_ ?_; rotate_left) | apply w_c); (focus simp (disch := first | decide | (try simp only [zz, hz]) <;> omega | fail) only [go_sem, hz, a0, a1, gN1, gM1] <;> rfl); with_reducible first | apply o_i | apply g_1 | apply g_2 | apply g_3 | apply g_4 | apply c_1 | apply c_2) | apply r_E | apply b_k | apply s_k | apply s_q)
    refine O_call (by simp (disch := first | decide | (try simp only [zz, hz]) <;> omega | fail) only [go_sem, hz, a0, a1] <;> rfl) ?_
    refine C.mono (hK.parts _ _ trivial (h1.setM hMr hMb _)) ?_
    rintro _ σ2 ⟨⟨t2, l2, rfl, hl2, ho2⟩, h2, g2⟩
    have nx2 := g2.next
    simp only [set_next] at nx2
    have gM2 := (g2.get M (by first | omega | (simp only [push_next, set_next]; first | done | omega)) hMr).trans set_eq
    have t2 : TE 10 σ2 (fun k => σ1.next ≤ k) (.agg ⟨l2⟩) _ := ⟨t2, l2, rfl, hl2, ho2⟩
    have gg2 := ((g1.two M).trans (Gr2.set _)).trans (g2.two M)
    repeat (first | apply s_R | apply o_n | ((first | apply o_p | (refine' o_g rfl rfl ?_ ?_; rotate_left) | apply w_c); (focus simp (disch := first | decide | (try simp only [zz, hz]) <;> omega | fail) only [go_sem, hz, a0, a1, gM2, hl2, ho2] <;> rfl); with_reducible first | apply o_i | apply g_1 | apply g_2 | apply g_3 | apply g_4 | apply c_1 | apply c_2) | apply r_E | apply b_k | apply s_k | apply s_q)
    refine end_mk (by simp (disch := first | decide | (try simp only [zz, hz]) <;> omega | fail) only [go_sem, hz] <;> rfl) ?_; (try simp only [resultA])
    have pg : ∀ B1 : Blk, Gr2 r M σ2 (σ2.push B1) := fun _ => (((Kp.refl σ2).push _).gr r).two M
    exact ⟨⟨_, set_eq, te_mkS (rd_nil _ _ _) (rd_nil _ _ _) (rd_lit1 (e := 44) (z := 1) ((set_ne (by omega)).trans push_eq) (by decide) (by first | omega | (simp only [push_next, set_next]; first | done | omega)) (by first | omega | (simp only [push_next, set_next]; first | done | omega)) (t2.keep (fun j hj hlt hz' => (set_ne (fun e => hz' (by rw [e, gM2]))).trans (push_ne (by omega))) (Nat.le_succ _) (fun j hj _ => by have := hj; omega))) (rd_nil _ _ _) (rd_nil _ _ _) (rd_nil _ _ _)⟩, (h2.kp ((Kp.refl σ2).push _)).setM hMr hMb _, (gg2.trans (pg _)).trans (Gr2.set _)⟩
end
end Go.Proofs.YtckidlbmoalomaaGreatDoor


namespace Go.Proofs.YtckidlbmoalomaaGreatDoor
open Go.RowKit
set_option maxRecDepth 10000
set_option linter.unusedSimpArgs false
set_option linter.unusedVariables false

section
variable {r b : Nat} {T : List Tk}
theorem rd_name1 {σ : AW} {D : Nat → Prop} {N e z : Nat} {c : Nat} {x : ByteArray} (hg : σ.get N = ⟨1, e, z, [.string x]⟩) (hz : z ≠ 0) (hN : N < σ.next) (hD : D N) : Rd σ D (sl 1 [nameT x]) (.slice (some ⟨N, 0, none⟩) 1 c) :=
  rd_lit (e := e) (z := z) (vs := [.string x]) (by rw [hg]; rfl) hz hN hD (RdL.one (rd_str.2 rfl)) (fun v hv => by simp only [List.mem_singleton] at hv; subst hv; rfl)
theorem plain17_c {K : Knot} {d : Int} (hK : KOK K r b T d) {σ : AW} {s : Sy} {M : Nat} {a : Int} (h : RdS σ r b T d s) (gM : σ.get M = ⟨1, 55, 0, [.int .i64 17, .int .i64 a, .string eB, .slice none 0 0, .slice none 0 0, .slice none 0 0, .slice none 0 0, .slice none 0 0, .slice none 0 0]⟩) (hM : M < σ.next) (hMr : M ≠ r) (hMb : M ≠ b) :
    C Tryz.prog 92 [.pointer (some ⟨r, 0, none⟩), .pointer (some ⟨M, 0, none⟩)] σ fun _ σ' => StP r b T d M σ (plainS K 17 a s) σ' := by
  have e : plainS K 17 a s = (mkS 17 a eB [nameT (nameS s).1] [] [] [] [] [], (nameS s).2) := rfl
  rw [e]
  refine C_enter rfl Tryz.func92 rfl Tryz.ntmps92 Tryz.results92 (Nat.le_of_ble_eq_true rfl) ?_; intro A hz hA; have a0 := hA 0 _ rfl; have a1 := hA 1 _ rfl; clear hA
  repeat (first | apply s_R | apply o_n | ((first | apply o_p | (refine' o_g rfl rfl ?_ ?_; rotate_left) | apply w_c); (focus simp (disch := first | decide | (try simp only [zz, hz]) <;> omega | fail) only [go_sem, hz, a0, a1, gM, Int.reduceBEq] <;> rfl); with_reducible first | apply o_i | apply g_1 | apply g_2 | apply g_3 | apply g_4 | apply c_1 | apply c_2) | apply r_E | apply b_k | apply s_k | apply s_q)
  refine O_call (by simp (disch := first | decide | (try simp only [zz, hz]) <;> omega | fail) only [go_sem, hz, a0, a1] <;> rfl) ?_
  refine C.mono (name_c word_c h) ?_
  rintro _ σ1 ⟨rfl, h1, g1⟩
  have nx1 := g1.next
  have gM1 := (g1.get M hM hMr).trans gM
  repeat (first | apply s_R | apply o_n | ((first | apply o_p | (refine' o_g rfl rfl ?_ ?_; rotate_left) | apply w_c); (focus simp (disch := first | decide | (try simp only [zz, hz]) <;> omega | fail) only [go_sem, hz, a0, a1, gM1] <;> rfl); with_reducible first | apply o_i | apply g_1 | apply g_2 | apply g_3 | apply g_4 | apply c_1 | apply c_2) | apply r_E | apply b_k | apply s_k | apply s_q)
  simp only [Then, Out, JumpL]
  refine end_mk (by simp (disch := first | decide | (try simp only [zz, hz]) <;> omega | fail) only [go_sem, hz] <;> rfl) ?_; (try simp only [resultA])
  have pg : ∀ B1 : Blk, Gr2 r M σ1 (σ1.push B1) := fun _ => (((Kp.refl σ1).push _).gr r).two M
  exact ⟨⟨_, set_eq, te_mkS (rd_name1 (e := 9) (z := 1) ((set_ne (by omega)).trans push_eq) (by decide) (by first | omega | (simp only [push_next, set_next]; first | done | omega)) (by first | omega | (simp only [push_next, set_next]; first | done | omega))) (rd_nil _ _ _) (rd_nil _ _ _) (rd_nil _ _ _) (rd_nil _ _ _) (rd_nil _ _ _)⟩, (h1.kp ((Kp.refl σ1).push _)).setM hMr hMb _, ((g1.two M).trans (pg _)).trans (Gr2.set _)⟩
theorem plain5_c {K : Knot} {d : Int} (hK : KOK K r b T d) {σ : AW} {s : Sy} {M : Nat} {a : Int} (h : RdS σ r b T d s) (gM : σ.get M = ⟨1, 55, 0, [.int .i64 5, .int .i64 a, .string eB, .slice none 0 0, .slice none 0 0, .slice none 0 0, .slice none 0 0, .slice none 0 0, .slice none 0 0]⟩) (hM : M < σ.next) (hMr : M ≠ r) (hMb : M ≠ b) :
    C Tryz.prog 92 [.pointer (some ⟨r, 0, none⟩), .pointer (some ⟨M, 0, none⟩)] σ fun _ σ' => StP r b T d M σ (plainS K 5 a s) σ' := by
  have e : plainS K 5 a s = (mkS 5 a (nameS s).1 [] [(K.or (nameS s).2).1] [] [] [] [], (K.or (nameS s).2).2) := rfl
  rw [e]
  refine C_enter rfl Tryz.func92 rfl Tryz.ntmps92 Tryz.results92 (Nat.le_of_ble_eq_true rfl) ?_; intro A hz hA; have a0 := hA 0 _ rfl; have a1 := hA 1 _ rfl; clear hA
  repeat (first | apply s_R | apply o_n | ((first | apply o_p | (refine' o_g rfl rfl ?_ ?_; rotate_left) | apply w_c); (focus simp (disch := first | decide | (try simp only [zz, hz]) <;> omega | fail) only [go_sem, hz, a0, a1, gM, Int.reduceBEq] <;> rfl); with_reducible first | apply o_i | apply g_1 | apply g_2 | apply g_3 | apply g_4 | apply c_1 | apply c_2) | apply r_E | apply b_k | apply s_k | apply s_q)
  refine O_call (by simp (disch := first | decide | (try simp only [zz, hz]) <;> omega | fail) only [go_sem, hz, a0, a1] <;> rfl) ?_
  refine C.mono (name_c word_c h) ?_
  rintro _ σ1 ⟨rfl, h1, g1⟩
  have nx1 := g1.next
  have gM1 := (g1.get M hM hMr).trans gM
  repeat (first | apply s_R | apply o_n | ((first | apply o_p | (refine' o_g rfl rfl ?_ ?_; rotate_left) | apply w_c); (focus simp (disch := first | decide | (try simp only [zz, hz]) <;> omega | fail) only [go_sem, hz, a0, a1, gM1] <;> rfl); with_reducible first | apply o_i | apply g_1 | apply g_2 | apply g_3 | apply g_4 | apply c_1 | apply c_2) | apply r_E | apply b_k | apply s_k | apply s_q)
  refine O_call (by simp (disch := first | decide | (try simp only [zz, hz]) <;> omega | fail) only [go_sem, hz, a0, a1] <;> rfl) ?_
  refine C.mono (hK.or _ _ trivial (h1.setM hMr hMb _)) ?_
  rintro _ σ2 ⟨⟨t2, l2, rfl, hl2, ho2⟩, h2, g2⟩
  have nx2 := g2.next
  simp only [set_next] at nx2
  have gM2 := (g2.get M (by first | omega | (simp only [push_next, set_next]; first | done | omega)) hMr).trans set_eq
  have t2 : TE 6 σ2 (fun k => σ1.next ≤ k) (.agg ⟨l2⟩) _ := ⟨t2, l2, rfl, hl2, ho2⟩
  have gg2 := ((g1.two M).trans (Gr2.set _)).trans (g2.two M)
  repeat (first | apply s_R | apply o_n | ((first | apply o_p | (refine' o_g rfl rfl ?_ ?_; rotate_left) | apply w_c); (focus simp (disch := first | decide | (try simp only [zz, hz]) <;> omega | fail) only [go_sem, hz, a0, a1, gM2, hl2, ho2] <;> rfl); with_reducible first | apply o_i | apply g_1 | apply g_2 | apply g_3 | apply g_4 | apply c_1 | apply c_2) | apply r_E | apply b_k | apply s_k | apply s_q)
  simp only [Then, Out, JumpL]
  refine end_mk (by simp (disch := first | decide | (try simp only [zz, hz]) <;> omega | fail) only [go_sem, hz] <;> rfl) ?_; (try simp only [resultA])
  have pg : ∀ B1 : Blk, Gr2 r M σ2 (σ2.push B1) := fun _ => (((Kp.refl σ2).push _).gr r).two M
  exact ⟨⟨_, set_eq, te_mkS (rd_nil _ _ _) (rd_lit1 (e := 37) (z := 1) ((set_ne (by omega)).trans push_eq) (by decide) (by first | omega | (simp only [push_next, set_next]; first | done | omega)) (by first | omega | (simp only [push_next, set_next]; first | done | omega)) (t2.keep (fun j hj hlt hz' => (set_ne (fun e => hz' (by rw [e, gM2]))).trans (push_ne (by omega))) (Nat.le_succ _) (fun j hj _ => by have := hj; omega))) (rd_nil _ _ _) (rd_nil _ _ _) (rd_nil _ _ _) (rd_nil _ _ _)⟩, (h2.kp ((Kp.refl σ2).push _)).setM hMr hMb _, (gg2.trans (pg _)).trans (Gr2.set _)⟩
theorem StP.lift {d : Int} {M : Nat} {σ τ σ' : AW} {p : Tr × Sy} (g : Gr2 r M σ τ) (h : StP r b T d M τ p σ') : StP r b T d M σ p σ' := by
  obtain ⟨⟨l, h1, h2⟩, h3, h4⟩ := h
  exact ⟨⟨l, h1, h2.lo fun k hk => Nat.le_trans g.1 hk⟩, h3, g.trans h4⟩
theorem plain6_c {K : Knot} {d : Int} (hK : KOK K r b T d) {σ : AW} {s : Sy} {M : Nat} {a : Int} (h : RdS σ r b T d s) (gM : σ.get M = ⟨1, 55, 0, [.int .i64 6, .int .i64 a, .string eB, .slice none 0 0, .slice none 0 0, .slice none 0 0, .slice none 0 0, .slice none 0 0, .slice none 0 0]⟩) (hM : M < σ.next) (hMr : M ≠ r) (hMb : M ≠ b) :
    C Tryz.prog 92 [.pointer (some ⟨r, 0, none⟩), .pointer (some ⟨M, 0, none⟩)] σ fun _ σ' => StP r b T d M σ (plainS K 6 a s) σ' := by
  have e : plainS K 6 a s = insertS K a (nameS (wantS w_into s).2).1 (nameS (wantS w_into s).2).2 := rfl
  rw [e]
  refine C_enter rfl Tryz.func92 rfl Tryz.ntmps92 Tryz.results92 (Nat.le_of_ble_eq_true rfl) ?_; intro A hz hA; have a0 := hA 0 _ rfl; have a1 := hA 1 _ rfl; clear hA
  repeat (first | apply s_R | apply o_n | ((first | apply o_p | (refine' o_g rfl rfl ?_ ?_; rotate_left) | apply w_c); (focus simp (disch := first | decide | (try simp only [zz, hz]) <;> omega | fail) only [go_sem, hz, a0, a1, gM, Int.reduceBEq] <;> rfl); with_reducible first | apply o_i | apply g_1 | apply g_2 | apply g_3 | apply g_4 | apply c_1 | apply c_2) | apply r_E | apply b_k | apply s_k | apply s_q)
  refine O_call (by simp (disch := first | decide | (try simp only [zz, hz]) <;> omega | fail) only [go_sem, hz, a0, a1] <;> rfl) ?_
  refine C.mono (want_c h w_into) ?_
  rintro _ σ1 ⟨h1, g1⟩
  have nx1 := g1.next
  have gM1 := (g1.get M hM hMr).trans gM
  repeat (first | apply s_R | apply o_n | ((first | apply o_p | (refine' o_g rfl rfl ?_ ?_; rotate_left) | apply w_c); (focus simp (disch := first | decide | (try simp only [zz, hz]) <;> omega | fail) only [go_sem, hz, a0, a1, gM1] <;> rfl); with_reducible first | apply o_i | apply g_1 | apply g_2 | apply g_3 | apply g_4 | apply c_1 | apply c_2) | apply r_E | apply b_k | apply s_k | apply s_q)
  refine O_call (by simp (disch := first | decide | (try simp only [zz, hz]) <;> omega | fail) only [go_sem, hz, a0, a1] <;> rfl) ?_
  refine C.mono (name_c word_c h1) ?_
  rintro _ σ2 ⟨rfl, h2, g2⟩
  have nx2 := g2.next
  have gM2 := (g2.get M (by omega) hMr).trans gM1
  repeat (first | apply s_R | apply o_n | ((first | apply o_p | (refine' o_g rfl rfl ?_ ?_; rotate_left) | apply w_c); (focus simp (disch := first | decide | (try simp only [zz, hz]) <;> omega | fail) only [go_sem, hz, a0, a1, gM2] <;> rfl); with_reducible first | apply o_i | apply g_1 | apply g_2 | apply g_3 | apply g_4 | apply c_1 | apply c_2) | apply r_E | apply b_k | apply s_k | apply s_q)
  refine O_call (by simp (disch := first | decide | (try simp only [zz, hz]) <;> omega | fail) only [go_sem, hz, a0, a1] <;> rfl) ?_
  refine C.mono (insert_c hK (h2.setM hMr hMb _) set_eq (by rw [set_next]; omega) hMr hMb) ?_
  rintro _ σ3 hst
  repeat (first | apply s_R | apply o_n | ((first | apply o_p | (refine' o_g rfl rfl ?_ ?_; rotate_left) | apply w_c); (focus simp (disch := first | decide | (try simp only [zz, hz]) <;> omega | fail) only [go_sem, hz, a0, a1] <;> rfl); with_reducible first | apply o_i | apply g_1 | apply g_2 | apply g_3 | apply g_4 | apply c_1 | apply c_2) | apply r_E | apply b_k | apply s_k | apply s_q)
  simp only [Then, Out, JumpL]
  refine end_mk (by simp (disch := first | decide | (try simp only [zz, hz]) <;> omega | fail) only [go_sem, hz] <;> rfl) ?_; (try simp only [resultA])
  exact hst.lift (((g1.trans g2).two M).trans (Gr2.set _))
theorem plain9_c {K : Knot} {d : Int} (hK : KOK K r b T d) {σ : AW} {s : Sy} {M : Nat} {a : Int} (h : RdS σ r b T d s) (gM : σ.get M = ⟨1, 55, 0, [.int .i64 9, .int .i64 a, .string eB, .slice none 0 0, .slice none 0 0, .slice none 0 0, .slice none 0 0, .slice none 0 0, .slice none 0 0]⟩) (hM : M < σ.next) (hMr : M ≠ r) (hMb : M ≠ b) :
    C Tryz.prog 92 [.pointer (some ⟨r, 0, none⟩), .pointer (some ⟨M, 0, none⟩)] σ fun _ σ' => StP r b T d M σ (plainS K 9 a s) σ' := by
  have e : plainS K 9 a s = (mkS 9 a (nameS (wantS w_from s).2).1 [] [] [] (whereS K (nameS (wantS w_from s).2).2).1 [] [], (whereS K (nameS (wantS w_from s).2).2).2) := rfl
  rw [e]
  refine C_enter rfl Tryz.func92 rfl Tryz.ntmps92 Tryz.results92 (Nat.le_of_ble_eq_true rfl) ?_; intro A hz hA; have a0 := hA 0 _ rfl; have a1 := hA 1 _ rfl; clear hA
  repeat (first | apply s_R | apply o_n | ((first | apply o_p | (refine' o_g rfl rfl ?_ ?_; rotate_left) | apply w_c); (focus simp (disch := first | decide | (try simp only [zz, hz]) <;> omega | fail) only [go_sem, hz, a0, a1, gM, Int.reduceBEq] <;> rfl); with_reducible first | apply o_i | apply g_1 | apply g_2 | apply g_3 | apply g_4 | apply c_1 | apply c_2) | apply r_E | apply b_k | apply s_k | apply s_q)
  refine O_call (by simp (disch := first | decide | (try simp only [zz, hz]) <;> omega | fail) only [go_sem, hz, a0, a1] <;> rfl) ?_
  refine C.mono (want_c h w_from) ?_
  rintro _ σ1 ⟨h1, g1⟩
  have nx1 := g1.next
  have gM1 := (g1.get M hM hMr).trans gM
  repeat (first | apply s_R | apply o_n | ((first | apply o_p | (refine' o_g rfl rfl ?_ ?_; rotate_left) | apply w_c); (focus simp (disch := first | decide | (try simp only [zz, hz]) <;> omega | fail) only [go_sem, hz, a0, a1, gM1] <;> rfl); with_reducible first | apply o_i | apply g_1 | apply g_2 | apply g_3 | apply g_4 | apply c_1 | apply c_2) | apply r_E | apply b_k | apply s_k | apply s_q)
  refine O_call (by simp (disch := first | decide | (try simp only [zz, hz]) <;> omega | fail) only [go_sem, hz, a0, a1] <;> rfl) ?_
  refine C.mono (name_c word_c h1) ?_
  rintro _ σ2 ⟨rfl, h2, g2⟩
  have nx2 := g2.next
  have gM2 := (g2.get M (by omega) hMr).trans gM1
  have gg2 := (g1.trans g2).two M
  repeat (first | apply s_R | apply o_n | ((first | apply o_p | (refine' o_g rfl rfl ?_ ?_; rotate_left) | apply w_c); (focus simp (disch := first | decide | (try simp only [zz, hz]) <;> omega | fail) only [go_sem, hz, a0, a1, gM2] <;> rfl); with_reducible first | apply o_i | apply g_1 | apply g_2 | apply g_3 | apply g_4 | apply c_1 | apply c_2) | apply r_E | apply b_k | apply s_k | apply s_q)
  refine O_call (by simp (disch := first | decide | (try simp only [zz, hz]) <;> omega | fail) only [go_sem, hz, a0, a1] <;> rfl) ?_
  refine C.mono (behE_c (fs := [.pointer (some ⟨r, 0, none⟩)]) (cs := []) stable_true hK.or w_where _ _ trivial (h2.setM hMr hMb _)) ?_
  rintro v σ3 ⟨t3, h3, g3⟩
  obtain ⟨va, vb, vc, rfl⟩ := rd_shape t3
  have nx3 := g3.next
  simp only [set_next] at nx3
  have gM3 := (g3.get M (by first | omega | (simp only [push_next, set_next]; first | done | omega)) hMr).trans set_eq
  repeat (first | apply s_R | apply o_n | ((first | apply o_p | (refine' o_g rfl rfl ?_ ?_; rotate_left) | apply w_c); (focus simp (disch := first | decide | (try simp only [zz, hz]) <;> omega | fail) only [go_sem, hz, a0, a1, gM3] <;> rfl); with_reducible first | apply o_i | apply g_1 | apply g_2 | apply g_3 | apply g_4 | apply c_1 | apply c_2) | apply r_E | apply b_k | apply s_k | apply s_q)
  simp only [Then, Out, JumpL]
  refine end_mk (by simp (disch := first | decide | (try simp only [zz, hz]) <;> omega | fail) only [go_sem, hz] <;> rfl) ?_; (try simp only [resultA])
  exact ⟨⟨_, set_eq, te_mkS (rd_nil _ _ _) (rd_nil _ _ _) (rd_nil _ _ _) (t3.keep (fun j hj hlt hz' => set_ne (fun e => hz' (by rw [e, gM3]))) (Nat.le_refl _) (fun j hj _ => by have := hj; simp only [set_next] at this; omega)) (rd_nil _ _ _) (rd_nil _ _ _)⟩, h3.setM hMr hMb _, ((gg2.trans (Gr2.set _)).trans (g3.two M)).trans (Gr2.set _)⟩
theorem plain12_c {K : Knot} {d : Int} (hK : KOK K r b T d) {σ : AW} {s : Sy} {M : Nat} {a : Int} (h : RdS σ r b T d s) (gM : σ.get M = ⟨1, 55, 0, [.int .i64 12, .int .i64 a, .string eB, .slice none 0 0, .slice none 0 0, .slice none 0 0, .slice none 0 0, .slice none 0 0, .slice none 0 0]⟩) (hM : M < σ.next) (hMr : M ≠ r) (hMb : M ≠ b) :
    C Tryz.prog 92 [.pointer (some ⟨r, 0, none⟩), .pointer (some ⟨M, 0, none⟩)] σ fun _ σ' => StP r b T d M σ (plainS K 12 a s) σ' := by
  have e : plainS K 12 a s = (mkS 12 a (nameS s).1 [] (listInBracketsS K.or (nameS s).2).1 [] [] [] [], (listInBracketsS K.or (nameS s).2).2) := rfl
  rw [e]
  refine C_enter rfl Tryz.func92 rfl Tryz.ntmps92 Tryz.results92 (Nat.le_of_ble_eq_true rfl) ?_; intro A hz hA; have a0 := hA 0 _ rfl; have a1 := hA 1 _ rfl; clear hA
  repeat (first | apply s_R | apply o_n | ((first | apply o_p | (refine' o_g rfl rfl ?_ ?_; rotate_left) | apply w_c); (focus simp (disch := first | decide | (try simp only [zz, hz]) <;> omega | fail) only [go_sem, hz, a0, a1, gM, Int.reduceBEq] <;> rfl); with_reducible first | apply o_i | apply g_1 | apply g_2 | apply g_3 | apply g_4 | apply c_1 | apply c_2) | apply r_E | apply b_k | apply s_k | apply s_q)
  refine O_call (by simp (disch := first | decide | (try simp only [zz, hz]) <;> omega | fail) only [go_sem, hz, a0, a1] <;> rfl) ?_
  refine C.mono (name_c word_c h) ?_
  rintro _ σ2 ⟨rfl, h2, g2⟩
  have nx2 := g2.next
  have gM2 := (g2.get M hM hMr).trans gM
  have gg2 := g2.two M
  repeat (first | apply s_R | apply o_n | ((first | apply o_p | (refine' o_g rfl rfl ?_ ?_; rotate_left) | apply w_c); (focus simp (disch := first | decide | (try simp only [zz, hz]) <;> omega | fail) only [go_sem, hz, a0, a1, gM2] <;> rfl); with_reducible first | apply o_i | apply g_1 | apply g_2 | apply g_3 | apply g_4 | apply c_1 | apply c_2) | apply r_E | apply b_k | apply s_k | apply s_q)
  refine O_call (by simp (disch := first | decide | (try simp only [zz, hz]) <;> omega | fail) only [go_sem, hz, a0, a1] <;> rfl) ?_
  refine C.mono (libE_c (fs := [.pointer (some ⟨r, 0, none⟩)]) (cs := []) stable_true hK.sh.or hK.or _ _ trivial (h2.setM hMr hMb _)) ?_
  rintro v σ3 ⟨t3, h3, g3⟩
  obtain ⟨va, vb, vc, rfl⟩ := rd_shape t3
  have nx3 := g3.next
  simp only [set_next] at nx3
  have gM3 := (g3.get M (by first | omega | (simp only [push_next, set_next]; first | done | omega)) hMr).trans set_eq
  repeat (first | apply s_R | apply o_n | ((first | apply o_p | (refine' o_g rfl rfl ?_ ?_; rotate_left) | apply w_c); (focus simp (disch := first | decide | (try simp only [zz, hz]) <;> omega | fail) only [go_sem, hz, a0, a1, gM3] <;> rfl); with_reducible first | apply o_i | apply g_1 | apply g_2 | apply g_3 | apply g_4 | apply c_1 | apply c_2) | apply r_E | apply b_k | apply s_k | apply s_q)
  simp only [Then, Out, JumpL]
  refine end_mk (by simp (disch := first | decide | (try simp only [zz, hz]) <;> omega | fail) only [go_sem, hz] <;> rfl) ?_; (try simp only [resultA])
  exact ⟨⟨_, set_eq, te_mkS (rd_nil _ _ _) (t3.keep (fun j hj hlt hz' => set_ne (fun e => hz' (by rw [e, gM3]))) (Nat.le_refl _) (fun j hj _ => by have := hj; simp only [set_next] at this; omega)) (rd_nil _ _ _) (rd_nil _ _ _) (rd_nil _ _ _) (rd_nil _ _ _)⟩, h3.setM hMr hMb _, ((gg2.trans (Gr2.set _)).trans (g3.two M)).trans (Gr2.set _)⟩
theorem RdS.short {σ : AW} {d : Int} {s : Sy} (h : RdS σ r b T d s) : s.left.length ≤ 100000 := by
  obtain ⟨i, h1, h2⟩ := h
  have := h1.few
  rw [h2, List.length_drop]
  omega
theorem wf0_E {x : Tr} (h : Wf 0 x) : ∃ k m s t kids qs, x = mkE k m s t kids qs := by
  obtain ⟨n, h⟩ := h
  cases n with
  | zero => exact h.elim
  | succ n => obtain ⟨k, m, s, t, kids, qs, e, _⟩ := h; exact ⟨k, m, s, t, kids, qs, e⟩
theorem plain1_c {K : Knot} {d : Int} (hK : KOK K r b T d) (hY : YlK K) {σ : AW} {s : Sy} {M : Nat} {a : Int} (h : RdS σ r b T d s) (gM : σ.get M = ⟨1, 55, 0, [.int .i64 1, .int .i64 a, .string eB, .slice none 0 0, .slice none 0 0, .slice none 0 0, .slice none 0 0, .slice none 0 0, .slice none 0 0]⟩) (hM : M < σ.next) (hMr : M ≠ r) (hMb : M ≠ b) :
    C Tryz.prog 92 [.pointer (some ⟨r, 0, none⟩), .pointer (some ⟨M, 0, none⟩)] σ fun _ σ' => StP r b T d M σ (plainS K 1 a s) σ' := by
  have hlr := h.lr
  have hlb := h.lb
  have e : plainS K 1 a s = (mkS 1 a eB [nameT (assignedS K s).1.1] [(assignedS K s).1.2] [] [] [] [], (assignedS K s).2) := rfl
  have ea : assignedT K s = (withName (assignedS K s).1.2 (assignedS K s).1.1, (assignedS K s).2) := rfl
  have hw := (yl_assigned hY s h.short).1
  rw [e]
  generalize assignedS K s = p at ea hw
  obtain ⟨⟨nm, ex⟩, s1⟩ := p
  refine C_enter rfl Tryz.func92 rfl Tryz.ntmps92 Tryz.results92 (Nat.le_of_ble_eq_true rfl) ?_; intro A hz hA; have a0 := hA 0 _ rfl; have a1 := hA 1 _ rfl; clear hA
  repeat (first | apply s_R | apply o_n | ((first | apply o_p | (refine' o_g rfl rfl ?_ ?_; rotate_left) | apply w_c); (focus simp (disch := first | decide | (try simp only [zz, hz]) <;> omega | fail) only [go_sem, hz, a0, a1, gM, Int.reduceBEq] <;> rfl); with_reducible first | apply o_i | apply g_1 | apply g_2 | apply g_3 | apply g_4 | apply c_1 | apply c_2) | apply r_E | apply b_k | apply s_k | apply s_q)
  refine O_call (by simp (disch := first | decide | (try simp only [zz, hz]) <;> omega | fail) only [go_sem, hz, a0, a1] <;> rfl) ?_
  refine C.mono (assigned_c hK _ _ trivial h) ?_
  rw [ea]
  rintro _ σ1 ⟨⟨t2, l2, rfl, hl2, ho2⟩, h1, g1⟩
  have nx1 := g1.next
  have gM1 := (g1.get M hM hMr).trans gM
  have t2 : TE 7 σ1 (fun k => σ.next ≤ k) (.agg ⟨l2⟩) _ := ⟨t2, l2, rfl, hl2, ho2⟩
  repeat (first | apply s_R | apply o_n | ((first | apply o_p | (refine' o_g rfl rfl ?_ ?_; rotate_left) | apply w_c); (focus simp (disch := first | decide | (try simp only [zz, hz]) <;> omega | fail) only [go_sem, hz, a0, a1, hl2, ho2] <;> rfl); with_reducible first | apply o_i | apply g_1 | apply g_2 | apply g_3 | apply g_4 | apply c_1 | apply c_2) | apply r_E | apply b_k | apply s_k | apply s_q)
  refine O_call (by simp (disch := first | decide | (try simp only [zz, hz]) <;> omega | fail) only [go_sem, hz, a0, a1, hl2, ho2] <;> rfl) ?_
  have hv : ∀ c : Nat, Rd (σ1.push ⟨1, 105, 1, l2⟩) (fun k => σ.next ≤ k) (sl 7 ([(nm, ex)].map fun p => withName p.2 p.1)) (.slice (some ⟨σ1.next, 0, none⟩) 1 c) := fun c => rd_lit1 (e := 105) (z := 1) push_eq (by decide) (by first | omega | (simp only [push_next, set_next]; first | done | omega)) (by first | omega | (simp only [push_next, set_next]; first | done | omega)) (t2.ks ((Ks.refl σ1).push _))
  refine C.mono (assign_c (l := [(nm, ex)]) (fun p hp => by simp only [List.mem_singleton] at hp; subst hp; exact wf0_E hw) (by simp) (hv _) ((push_ne (by omega)).trans gM1) (by first | omega | (simp only [push_next, set_next]; first | done | omega))) ?_
  rintro _ σ3 ⟨vn, ve, gM3, rn, re, g3⟩
  have nx3 := g3.next
  simp only [push_next] at nx3
  repeat (first | apply s_R | apply o_n | ((first | apply o_p | (refine' o_g rfl rfl ?_ ?_; rotate_left) | apply w_c); (focus simp (disch := first | decide | (try simp only [zz, hz]) <;> omega | fail) only [go_sem, hz, a0, a1] <;> rfl); with_reducible first | apply o_i | apply g_1 | apply g_2 | apply g_3 | apply g_4 | apply c_1 | apply c_2) | apply r_E | apply b_k | apply s_k | apply s_q)
  simp only [Then, Out, JumpL]
  refine end_mk (by simp (disch := first | decide | (try simp only [zz, hz]) <;> omega | fail) only [go_sem, hz] <;> rfl) ?_; (try simp only [resultA])
  have k3 : ∀ k, k < σ1.next → k ≠ M → σ3.get k = σ1.get k := fun k h1 h3 => (g3.get k (by first | omega | (simp only [push_next, set_next]; first | done | omega)) h3).trans (push_ne (by omega))
  have g3' : Gr2 r M σ1 σ3 := ⟨by omega, fun k h1 _ h3 => k3 k h1 h3⟩
  have h3 : RdS σ3 r b T d s1 := by
    obtain ⟨i, q1, q2⟩ := h1
    exact ⟨i, { q1 with get := (k3 r q1.lr (Ne.symm hMr)).trans q1.get, toks := (k3 b q1.lb (Ne.symm hMb)).trans q1.toks, lr := Nat.lt_of_lt_of_le q1.lr g3'.1, lb := Nat.lt_of_lt_of_le q1.lb g3'.1 }, q2⟩
  exact ⟨⟨_, gM3, te_mkS (rn.lo fun j hj => by have := hj; simp only [push_next] at this; omega) (re.lo fun j hj => by rcases hj with hj | hj; exact hj; simp only [push_next] at hj; omega) (rd_nil _ _ _) (rd_nil _ _ _) (rd_nil _ _ _) (rd_nil _ _ _)⟩, h3, (g1.two M).trans g3'⟩
theorem map_loop {α β : Type} (f : α → β) {x : ByteArray} {m : SM α} {m' : SM β} (hm : ∀ σ, m' σ = (f (m σ).1, (m σ).2)) : ∀ (n : Nat) (l : List α) (σ : Sy), loopS (fun l => takeS x >>= fun c => if c = true then (m' >>= fun y => Pure.pure (some (l ++ [y]))) else Pure.pure none) n (l.map f) σ = (((loopS (fun l => takeS x >>= fun c => if c = true then (m >>= fun y => Pure.pure (some (l ++ [y]))) else Pure.pure none) n l σ).1.map f), (loopS (fun l => takeS x >>= fun c => if c = true then (m >>= fun y => Pure.pure (some (l ++ [y]))) else Pure.pure none) n l σ).2)
  | 0, _, _ => rfl
  | n + 1, l, σ => by
    simp only [loopS, SM.bind_run]
    cases hc : (takeS x σ).1 with
    | false => rfl
    | true =>
      simp only [if_true, SM.bind_run, hm]
      have := map_loop (x := x) f hm n (l ++ [(m (takeS x σ).2).1]) (m (takeS x σ).2).2
      rw [List.map_append] at this
      exact this
theorem list_map {α β : Type} (f : α → β) {x : ByteArray} {m : SM α} {m' : SM β} (hm : ∀ σ, m' σ = (f (m σ).1, (m σ).2)) (σ : Sy) : listS x m' σ = ((listS x m σ).1.map f, (listS x m σ).2) := by
  unfold listS
  simp only [SM.bind_run, hm]
  exact map_loop f hm _ [(m σ).1] _
theorem asg_list (K : Knot) (σ : Sy) : listS m_comma (assignedT K) σ = ((listS m_comma (assignedS K) σ).1.map (fun p => withName p.2 p.1), (listS m_comma (assignedS K) σ).2) := list_map (m := assignedS K) (m' := assignedT K) (fun p => withName p.2 p.1) (fun _ => rfl) σ
theorem plain8_c {K : Knot} {d : Int} (hK : KOK K r b T d) (hY : YlK K) {σ : AW} {s : Sy} {M : Nat} {a : Int} (h : RdS σ r b T d s) (gM : σ.get M = ⟨1, 55, 0, [.int .i64 8, .int .i64 a, .string eB, .slice none 0 0, .slice none 0 0, .slice none 0 0, .slice none 0 0, .slice none 0 0, .slice none 0 0]⟩) (hM : M < σ.next) (hMr : M ≠ r) (hMb : M ≠ b) :
    C Tryz.prog 92 [.pointer (some ⟨r, 0, none⟩), .pointer (some ⟨M, 0, none⟩)] σ fun _ σ' => StP r b T d M σ (plainS K 8 a s) σ' := by
  have e : plainS K 8 a s = (mkS 8 a (nameS s).1 ((listS m_comma (assignedS K) (wantS w_set (nameS s).2).2).1.map fun p => nameT p.1) ((listS m_comma (assignedS K) (wantS w_set (nameS s).2).2).1.map fun p => p.2) [] (whereS K (listS m_comma (assignedS K) (wantS w_set (nameS s).2).2).2).1 [] [], (whereS K (listS m_comma (assignedS K) (wantS w_set (nameS s).2).2).2).2) := rfl
  rw [e]
  refine C_enter rfl Tryz.func92 rfl Tryz.ntmps92 Tryz.results92 (Nat.le_of_ble_eq_true rfl) ?_; intro A hz hA; have a0 := hA 0 _ rfl; have a1 := hA 1 _ rfl; clear hA
  repeat (first | apply s_R | apply o_n | ((first | apply o_p | (refine' o_g rfl rfl ?_ ?_; rotate_left) | apply w_c); (focus simp (disch := first | decide | (try simp only [zz, hz]) <;> omega | fail) only [go_sem, hz, a0, a1, gM, Int.reduceBEq] <;> rfl); with_reducible first | apply o_i | apply g_1 | apply g_2 | apply g_3 | apply g_4 | apply c_1 | apply c_2) | apply r_E | apply b_k | apply s_k | apply s_q)
  refine O_call (by simp (disch := first | decide | (try simp only [zz, hz]) <;> omega | fail) only [go_sem, hz, a0, a1] <;> rfl) ?_
  refine C.mono (name_c word_c h) ?_
  rintro _ σ1 ⟨rfl, h1, g1⟩
  have nx1 := g1.next
  have gM1 := (g1.get M hM hMr).trans gM
  repeat (first | apply s_R | apply o_n | ((first | apply o_p | (refine' o_g rfl rfl ?_ ?_; rotate_left) | apply w_c); (focus simp (disch := first | decide | (try simp only [zz, hz]) <;> omega | fail) only [go_sem, hz, a0, a1, gM1] <;> rfl); with_reducible first | apply o_i | apply g_1 | apply g_2 | apply g_3 | apply g_4 | apply c_1 | apply c_2) | apply r_E | apply b_k | apply s_k | apply s_q)
  refine O_call (by simp (disch := first | decide | (try simp only [zz, hz]) <;> omega | fail) only [go_sem, hz, a0, a1] <;> rfl) ?_
  refine C.mono (want_c (h1.setM hMr hMb _) w_set) ?_
  rintro _ σ2 ⟨h2, g2⟩
  have nx2 := g2.next
  simp only [set_next] at nx2
  have gM2 := (g2.get M (by first | omega | (simp only [push_next, set_next]; first | done | omega)) hMr).trans set_eq
  have gg2 := ((g1.two M).trans (Gr2.set _)).trans (g2.two M)
  have ha := asg_list K (wantS w_set (nameS s).2).2
  have hw := ((yl_assigned hY).list m_comma (wantS w_set (nameS s).2).2 h2.short).1
  generalize listS m_comma (assignedS K) (wantS w_set (nameS s).2).2 = q at ha hw
  obtain ⟨l, s3⟩ := q
  repeat (first | apply s_R | apply o_n | ((first | apply o_p | (refine' o_g rfl rfl ?_ ?_; rotate_left) | apply w_c); (focus simp (disch := first | decide | (try simp only [zz, hz]) <;> omega | fail) only [go_sem, hz, a0, a1, gM2] <;> rfl); with_reducible first | apply o_i | apply g_1 | apply g_2 | apply g_3 | apply g_4 | apply c_1 | apply c_2) | apply r_E | apply b_k | apply s_k | apply s_q)
  refine O_call (by simp (disch := first | decide | (try simp only [zz, hz]) <;> omega | fail) only [go_sem, hz, a0, a1] <;> rfl) ?_
  refine C.mono (listI_c (fs := [.pointer (some ⟨r, 0, none⟩)]) (cs := []) stable_true (shr_assignedT hK.sh) (assigned_c hK) m_comma _ _ trivial h2) ?_
  rw [ha]
  rintro v σ3 ⟨t3, h3, g3⟩
  have nx3 := g3.next
  have gM3 := (g3.get M (by omega) hMr).trans gM2
  repeat (first | apply s_R | apply o_n | ((first | apply o_p | (refine' o_g rfl rfl ?_ ?_; rotate_left) | apply w_c); (focus simp (disch := first | decide | (try simp only [zz, hz]) <;> omega | fail) only [go_sem, hz, a0, a1, gM3] <;> rfl); with_reducible first | apply o_i | apply g_1 | apply g_2 | apply g_3 | apply g_4 | apply c_1 | apply c_2) | apply r_E | apply b_k | apply s_k | apply s_q)
  refine O_call (by simp (disch := first | decide | (try simp only [zz, hz]) <;> omega | fail) only [go_sem, hz, a0, a1] <;> rfl) ?_
  refine C.mono (assign_c (l := l) (fun p hp => wf0_E (hw.2 p hp)) hw.1 t3 gM3 (by omega)) ?_
  rintro _ σ4 ⟨vn, ve, gM4, rn, re, g4⟩
  have nx4 := g4.next
  have h4 : RdS σ4 r b T d s3 := by
    obtain ⟨i, q1, q2⟩ := h3
    exact ⟨i, { q1 with get := (g4.get r q1.lr (Ne.symm hMr)).trans q1.get, toks := (g4.get b q1.lb (Ne.symm hMb)).trans q1.toks, lr := Nat.lt_of_lt_of_le q1.lr g4.next, lb := Nat.lt_of_lt_of_le q1.lb g4.next }, q2⟩
  obtain ⟨na, nb, nc, rfl⟩ := rd_shape rn
  obtain ⟨ea, eb, ec, rfl⟩ := rd_shape re
  repeat (first | apply s_R | apply o_n | ((first | apply o_p | (refine' o_g rfl rfl ?_ ?_; rotate_left) | apply w_c); (focus simp (disch := first | decide | (try simp only [zz, hz]) <;> omega | fail) only [go_sem, hz, a0, a1] <;> rfl); with_reducible first | apply o_i | apply g_1 | apply g_2 | apply g_3 | apply g_4 | apply c_1 | apply c_2) | apply r_E | apply b_k | apply s_k | apply s_q)
  refine O_call (by simp (disch := first | decide | (try simp only [zz, hz]) <;> omega | fail) only [go_sem, hz, a0, a1] <;> rfl) ?_
  refine C.mono (behE_c (fs := [.pointer (some ⟨r, 0, none⟩)]) (cs := []) stable_true hK.or w_where _ _ trivial h4) ?_
  rintro v5 σ5 ⟨t5, h5, g5⟩
  obtain ⟨va, vb, vc, rfl⟩ := rd_shape t5
  have nx5 := g5.next
  have gM5 := (g5.get M (by omega) hMr).trans gM4
  have ks5 := g5.ks h4.ez
  repeat (first | apply s_R | apply o_n | ((first | apply o_p | (refine' o_g rfl rfl ?_ ?_; rotate_left) | apply w_c); (focus simp (disch := first | decide | (try simp only [zz, hz]) <;> omega | fail) only [go_sem, hz, a0, a1, gM5] <;> rfl); with_reducible first | apply o_i | apply g_1 | apply g_2 | apply g_3 | apply g_4 | apply c_1 | apply c_2) | apply r_E | apply b_k | apply s_k | apply s_q)
  simp only [Then, Out, JumpL]
  refine end_mk (by simp (disch := first | decide | (try simp only [zz, hz]) <;> omega | fail) only [go_sem, hz] <;> rfl) ?_; (try simp only [resultA])
  have st : ∀ B j, (σ5.get j).esz ≠ 0 → (σ5.set M B).get j = σ5.get j := fun B j hz' => set_ne (fun e => hz' (by rw [e, gM5]))
  have st4 : ∀ B j, j < σ4.next → (σ4.get j).esz ≠ 0 → (σ5.set M B).get j = σ4.get j := fun B j hlt hz' => (set_ne (fun e => hz' (by rw [e, gM4]))).trans (ks5.get j hlt hz')
  have gg4 : Gr2 r M σ σ4 := (gg2.trans (g3.two M)).trans ⟨g4.next, fun k h1 _ h3 => g4.get k h1 h3⟩
  exact ⟨⟨_, set_eq, te_mkS (rn.keep (fun j _ hlt hz' => st4 _ j hlt hz') nx5 (fun j hj _ => by have := hj; omega)) (re.keep (fun j _ hlt hz' => st4 _ j hlt hz') nx5 (fun j hj _ => by rcases hj with hj | hj <;> omega)) (rd_nil _ _ _) (t5.keep (fun j _ _ hz' => st _ j hz') (Nat.le_refl _) (fun j hj _ => by have := hj; omega)) (rd_nil _ _ _) (rd_nil _ _ _)⟩, h5.setM hMr hMb _, (gg4.trans (g5.two M)).trans (Gr2.set _)⟩
def newS (k a : Int) : List Value := [.int .i64 k, .int .i64 a, .string eB, .slice none 0 0, .slice none 0 0, .slice none 0 0, .slice none 0 0, .slice none 0 0, .slice none 0 0]
theorem plainN_c {K : Knot} {d : Int} {σ : AW} {s : Sy} {M : Nat} {k a : Int} (n1 : k ≠ 1) (n2 : k ≠ 17) (n3 : k ≠ 5) (n4 : k ≠ 6) (n5 : k ≠ 8) (n6 : k ≠ 9) (n7 : k ≠ 12) (h : RdS σ r b T d s) (gM : σ.get M = ⟨1, 55, 0, [.int .i64 k, .int .i64 a, .string eB, .slice none 0 0, .slice none 0 0, .slice none 0 0, .slice none 0 0, .slice none 0 0, .slice none 0 0]⟩) (hM : M < σ.next) :
    C Tryz.prog 92 [.pointer (some ⟨r, 0, none⟩), .pointer (some ⟨M, 0, none⟩)] σ fun _ σ' => StP r b T d M σ (plainS K k a s) σ' := by
  have e : plainS K k a s = (mkS k a eB [] [] [] [] [] [], s) := by
    unfold plainS
    rw [if_neg n1, if_neg n2, if_neg n3, if_neg n4, if_neg n5, if_neg n6, if_neg n7]
    rfl
  rw [e]
  have e1 : (k == 1) = false := by simp [n1]
  have e2 : (k == 17) = false := by simp [n2]
  have e3 : (k == 5) = false := by simp [n3]
  have e4 : (k == 6) = false := by simp [n4]
  have e5 : (k == 8) = false := by simp [n5]
  have e6 : (k == 9) = false := by simp [n6]
  have e7 : (k == 12) = false := by simp [n7]
  refine C_enter rfl Tryz.func92 rfl Tryz.ntmps92 Tryz.results92 (Nat.le_of_ble_eq_true rfl) ?_; intro A hz hA; have a0 := hA 0 _ rfl; have a1 := hA 1 _ rfl; clear hA
  repeat (first | apply s_R | apply o_n | ((first | apply o_p | (refine' o_g rfl rfl ?_ ?_; rotate_left) | apply w_c); (focus simp (disch := first | decide | (try simp only [zz, hz]) <;> omega | fail) only [go_sem, hz, a0, a1, gM, e1, e2, e3, e4, e5, e6, e7] <;> rfl); with_reducible first | apply o_i | apply g_1 | apply g_2 | apply g_3 | apply g_4 | apply c_1 | apply c_2) | apply r_E | apply b_k | apply s_k | apply s_q)
  simp only [Then, Out, JumpL]
  refine end_mk (by simp (disch := first | decide | (try simp only [zz, hz]) <;> omega | fail) only [go_sem, hz] <;> rfl) ?_; (try simp only [resultA])
  exact ⟨⟨_, gM, te_mkS (rd_nil _ _ _) (rd_nil _ _ _) (rd_nil _ _ _) (rd_nil _ _ _) (rd_nil _ _ _) (rd_nil _ _ _)⟩, h, (Gr.refl r σ).two M⟩
theorem plain_c {K : Knot} {d : Int} (hK : KOK K r b T d) (hY : YlK K) {σ : AW} {s : Sy} {M : Nat} {k a : Int} (h : RdS σ r b T d s) (gM : σ.get M = ⟨1, 55, 0, newS k a⟩) (hM : M < σ.next) (hMr : M ≠ r) (hMb : M ≠ b) :
    C Tryz.prog 92 [.pointer (some ⟨r, 0, none⟩), .pointer (some ⟨M, 0, none⟩)] σ fun _ σ' => StP r b T d M σ (plainS K k a s) σ' := by
  by_cases n1 : k = 1
  · subst n1; exact plain1_c hK hY h gM hM hMr hMb
  by_cases n2 : k = 17
  · subst n2; exact plain17_c hK h gM hM hMr hMb
  by_cases n3 : k = 5
  · subst n3; exact plain5_c hK h gM hM hMr hMb
  by_cases n4 : k = 6
  · subst n4; exact plain6_c hK h gM hM hMr hMb
  by_cases n5 : k = 8
  · subst n5; exact plain8_c hK hY h gM hM hMr hMb
  by_cases n6 : k = 9
  · subst n6; exact plain9_c hK h gM hM hMr hMb
  by_cases n7 : k = 12
  · subst n7; exact plain12_c hK h gM hM hMr hMb
  exact plainN_c n1 n2 n3 n4 n5 n6 n7 h gM hM
end
end Go.Proofs.YtckidlbmoalomaaGreatDoor
