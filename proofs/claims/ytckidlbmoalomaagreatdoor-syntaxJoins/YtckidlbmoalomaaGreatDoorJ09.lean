/- The program's reader: the generic readers, at each type. The program's reader: expressions. The program's reader: primaries and comparisons. The program's reader: primaries and comparisons. -/
import Derived.Test.YtckidlbmoalomaaGreatDoorJ08


namespace Go.Proofs.YtckidlbmoalomaaGreatDoor
open Go.RowKit
set_option maxRecDepth 10000
set_option linter.unusedSimpArgs false
set_option linter.unusedVariables false

def flStep (more : Tr → ByteArray → SM Tr) (ws : List ByteArray) : Tr → SM (Option Tr) := fun x => do
    match ← takeAnyS ws with
    | some m => do
      let y ← more x m
      pure (some y)
    | none => pure none
theorem fl_some {more : Tr → ByteArray → SM Tr} {ws : List ByteArray} {s : Sy} {x : ByteArray} {m : Nat} {p : Tr} (h : (takeAnyS ws s).1 = some x) : loopS (flStep more ws) (m + 1) p s = loopS (flStep more ws) m (more p x (takeAnyS ws s).2).1 (more p x (takeAnyS ws s).2).2 := by
  have h1 : flStep more ws p s = (some (more p x (takeAnyS ws s).2).1, (more p x (takeAnyS ws s).2).2) := by
    show (match (takeAnyS ws s).1 with
      | some m => (more p m >>= fun y => pure (some y) : SM (Option Tr))
      | none => pure none) (takeAnyS ws s).2 = _
    rw [h]
    rfl
  simp only [loopS, SM.bind_run, h1]
theorem fl_none {more : Tr → ByteArray → SM Tr} {ws : List ByteArray} {s : Sy} {m : Nat} {p : Tr} (h : (takeAnyS ws s).1 = none) : loopS (flStep more ws) (m + 1) p s = (p, (takeAnyS ws s).2) := by
  have h1 : flStep more ws p s = (none, (takeAnyS ws s).2) := by
    show (match (takeAnyS ws s).1 with
      | some m => (more p m >>= fun y => pure (some y) : SM (Option Tr))
      | none => pure none) (takeAnyS ws s).2 = _
    rw [h]
    rfl
  simp only [loopS, SM.bind_run, h1]
  rfl
def eaStep (x : ByteArray) (m : SM Tr) : List Tr → SM (Option (List Tr)) := fun l => do
    if ← takeS x then do
      let y ← m
      pure (some (l ++ [y]))
    else pure none
theorem ea_true {x : ByteArray} {m : SM Tr} {s : Sy} {k : Nat} {ps : List Tr} (h : (takeS x s).1 = true) : loopS (eaStep x m) (k + 1) ps s = loopS (eaStep x m) k (ps ++ [(m (takeS x s).2).1]) (m (takeS x s).2).2 := by
  have h1 : eaStep x m ps s = (some (ps ++ [(m (takeS x s).2).1]), (m (takeS x s).2).2) := by
    show (if (takeS x s).1 = true then (m >>= fun y => pure (some (ps ++ [y])) : SM (Option (List Tr))) else pure none) (takeS x s).2 = _
    rw [if_pos h]
    rfl
  simp only [loopS, SM.bind_run, h1]
theorem ea_false {x : ByteArray} {m : SM Tr} {s : Sy} {k : Nat} {ps : List Tr} (h : (takeS x s).1 = false) : loopS (eaStep x m) (k + 1) ps s = (ps, (takeS x s).2) := by
  have h1 : eaStep x m ps s = (none, (takeS x s).2) := by
    show (if (takeS x s).1 = true then (m >>= fun y => pure (some (ps ++ [y])) : SM (Option (List Tr))) else pure none) (takeS x s).2 = _
    rw [if_neg (by simp [h])]
    rfl
  simp only [loopS, SM.bind_run, h1]
  rfl
theorem take_lt {x : ByteArray} {s : Sy} (hp : 0 < s.left.length) (h : (takeS x s).1 = true) : (takeS x s).2.left.length < s.left.length := by
  unfold takeS at h ⊢
  split at h
  · rename_i hs
    rw [if_pos hs]
    simp
    omega
  · cases h
def Grow (σ : AW) (N e n : Nat) (v : Value) (vs ps : List Value) : Prop := ∃ B c k z, v = .slice (some ⟨B, 0, none⟩) vs.length c ∧ σ.get B = ⟨k, e, z, vs.flatMap cellsL⟩ ∧ ((k = 1 ∧ c = 2 * vs.length ∧ z = 1) ∨ (k = 2 ∧ c = 1 ∧ z = n)) ∧ N ≤ B ∧ B < σ.next ∧ RdL σ (fun k => N ≤ k ∧ k ≠ B) ps vs ∧ ∀ v ∈ vs, Sh n v
theorem flat_len {n : Nat} : ∀ {vs : List Value}, (∀ v ∈ vs, Sh n v) → (vs.flatMap cellsL).length = vs.length * n
  | [], _ => by simp
  | u :: vs, h => by rw [List.flatMap_cons, List.length_append, (h u (List.mem_cons_self ..)).len, flat_len (fun w hw => h w (List.mem_cons_of_mem _ hw)), List.length_cons, Nat.add_mul, Nat.one_mul, Nat.add_comm]
theorem Grow.rd {σ : AW} {N e n : Nat} {v : Value} {vs ps : List Value} (h : Grow σ N e n v vs ps) (hn : n ≠ 0) : Rd σ (fun k => N ≤ k) (sl n ps) v := by
  obtain ⟨B, c, k, z, rfl, h2, h3, h4, h5, h6, h7⟩ := h
  refine rd_sl.2 ⟨vs, h6.keep (fun _ _ _ _ => rfl) (Nat.le_refl _) (fun k hk _ => hk.1), .inr ⟨B, 0, c, k, e, z, _, rfl, h2, h3.imp (·.1) (·.1), ?_, h5, h4, ?_, fun u hu => (h7 u hu).len⟩⟩
  · rcases h3 with ⟨_, _, rfl⟩ | ⟨_, _, rfl⟩
    · decide
    · exact hn
  · rw [List.drop_zero, List.take_of_length_le (by rw [flat_len h7]; exact Nat.le_refl _)]
theorem Grow.gr {r : Nat} {σ σ' : AW} {N e n : Nat} {v : Value} {vs ps : List Value} (h : Grow σ N e n v vs ps) (g : Gr r σ σ') (hr : r < N) : Grow σ' N e n v vs ps := by
  obtain ⟨B, c, k, z, h1, h2, h3, h4, h5, h6, h7⟩ := h
  exact ⟨B, c, k, z, h1, by rw [g.get B h5 (by omega)]; exact h2, h3, h4, Nat.lt_of_lt_of_le h5 g.next, h6.keep (fun j hj hlt _ => g.get j hlt (by have := hj.1; omega)) g.next (fun _ h _ => h), h7⟩
theorem grow_app {P : Program} {r : Nat} {σ3 σ4 : AW} {N t e n bts : Nat} {zv v p : Value} {vs ps l : List Value} (hu : P.underlying t = some (.slice e)) (hio : (P.info? e).map (fun i => (i.zero, i.size, i.bytes)) = some (some zv, n, bts)) (hz : (cellsL zv).length = n) (hn : 0 < n)
    (hr : r < N) (hN : N ≤ σ3.next) (hG : Grow σ3 N e n v vs ps) (g : Gr r σ3 σ4) (ht : TE n σ4 (fun k => σ3.next ≤ k) (.agg ⟨l⟩) p) (hb : (2 * (vs.length + 1) + 768) * bts ≤ 281474976710656) (hlen : vs.length + 1 ≤ 1000000000) :
    ∃ v' σ', appendA P (σ4.push ⟨1, e, 1, l⟩) t t v (.slice (some ⟨σ4.next, 0, none⟩) 1 2) = some (v', σ') ∧ Grow σ' N e n v' (vs ++ [.agg ⟨l⟩]) (ps ++ [p]) ∧ Ow N σ4 σ' ∧ ∀ j, j < σ4.next → (σ4.get j).esz = 0 → σ'.get j = σ4.get j := by
  obtain ⟨B, c, k, z, rfl, h2, h3, h4, h5, h6, h7⟩ := hG.gr g hr
  obtain ⟨B', _, _, _, e1, _, _, _, hB3, _, _⟩ := hG
  injection e1 with e1
  injection e1 with e1
  injection e1 with e1
  subst e1
  obtain ⟨t4, _, e2, hl4, ho4⟩ := ht
  injection e2 with e2
  injection e2 with e2
  subst e2
  have hne : B ≠ σ4.next := by omega
  refine ⟨_, _, append_1 hu hio hz hn (len := vs.length) (by rw [push_ne hne]; exact h2) (h3.imp (fun h => ⟨h.1, h.2.1⟩) (fun h => ⟨h.1, h.2.1, rfl, h.2.2⟩)) (flat_len h7) push_eq hl4 ho4 hb hlen, ?_, ?_, fun j hj hz0 => ?_⟩
  · have hnx : (if k = 1 then σ4.push ⟨1, e, 1, l⟩ else (σ4.push ⟨1, e, 1, l⟩).set B noBlk).next = σ4.next + 1 := by split <;> rfl
    have hkeep : ∀ j, j ≠ B → j < σ4.next → ((if k = 1 then σ4.push ⟨1, e, 1, l⟩ else (σ4.push ⟨1, e, 1, l⟩).set B noBlk).push ⟨2, e, n, vs.flatMap cellsL ++ l⟩).get j = σ4.get j := fun j h1 h2 => by
      rw [push_ne (by rw [hnx]; omega)]
      split
      · exact push_ne (by omega)
      · rw [set_ne h1, push_ne (by omega)]
    refine ⟨σ4.next + 1, 1, 2, n, by rw [List.length_append]; rfl, ?_, .inr ⟨rfl, rfl, rfl⟩, by omega, by rw [push_next, hnx]; omega, ?_, ?_⟩
    · have := push_eq (σ := if k = 1 then σ4.push ⟨1, e, 1, l⟩ else (σ4.push ⟨1, e, 1, l⟩).set B noBlk) (b := ⟨2, e, n, vs.flatMap cellsL ++ l⟩)
      rw [hnx] at this
      rw [this]
      simp [cellsL]
    · refine RdL.append (h6.keep (fun j hj hlt _ => hkeep j hj.2 hlt) (by rw [push_next, hnx]; omega) (fun j hj hlt => ⟨hj.1, by omega⟩)) (RdL.one (t4.keep (fun j hj hlt _ => hkeep j (by have := hj; omega) hlt) (by rw [push_next, hnx]; omega) (fun j hj hlt => ⟨by have := hj; omega, by omega⟩)))
    · intro u hu
      rcases List.mem_append.1 hu with hu | hu
      · exact h7 u hu
      · simp only [List.mem_singleton] at hu
        subst hu
        exact ⟨l, rfl, hl4, ho4⟩
  · split
    · exact (((Ow.refl N σ4).push _).push _)
    · exact ((((Ow.refl N σ4).push _).set h4 _).push _)
  · have hjB : j ≠ B := fun e => by
      rw [e, h2] at hz0
      rcases h3 with ⟨_, _, e3⟩ | ⟨_, _, e3⟩ <;> (simp only at hz0; omega)
    have hnx : (if k = 1 then σ4.push ⟨1, e, 1, l⟩ else (σ4.push ⟨1, e, 1, l⟩).set B noBlk).next = σ4.next + 1 := by split <;> rfl
    rw [push_ne (by rw [hnx]; omega)]
    split
    · exact push_ne (by omega)
    · rw [set_ne hjB, push_ne (by omega)]
theorem takeAny_some {s : Sy} {x : ByteArray} (hp : 0 < s.left.length) : ∀ {ws : List ByteArray}, (takeAnyS ws s).1 = some x → x ∈ ws ∧ (takeAnyS ws s).2.left.length < s.left.length
  | [], h => by cases h
  | y :: ws, h => by
    unfold takeAnyS at h ⊢
    by_cases hy : seesB y s = true
    · rw [if_pos hy] at h ⊢
      injection h with h
      subst h
      exact ⟨List.mem_cons_self .., by simp; omega⟩
    · rw [if_neg hy] at h ⊢
      obtain ⟨h1, h2⟩ := takeAny_some hp h
      exact ⟨List.mem_cons_of_mem _ h1, h2⟩
section
variable {r b : Nat} {T : List Tk}
def ReadsL (E : AW → Prop) (n r b : Nat) (T : List Tk) (d : Int) (g : Nat) (xs : List Value) (m : SM (List Tr)) : Prop := ∀ σ s, E σ → RdS σ r b T d s → C Tryz.prog g xs σ fun v σ' => Rd σ' (fun k => σ.next ≤ k) (sl n (m s).1) v ∧ RdS σ' r b T d (m s).2 ∧ Gr r σ σ'
theorem postL_fin {n : Nat} {d : Int} {σ σ2 σ3 : AW} {p : List Tr × Sy} {v : Value} (ow : Ow σ.next σ2 σ3) (g : Gr r σ σ2) (h : RdS σ2 r b T d p.2) (hlr : r < σ.next) (hlb : b < σ.next) (ht : Rd σ3 (fun k => σ.next ≤ k) (sl n p.1) v) : Rd σ3 (fun k => σ.next ≤ k) (sl n p.1) v ∧ RdS σ3 r b T d p.2 ∧ Gr r σ σ3 :=
  ⟨ht, h.ow ow hlr hlb, g.ow ow⟩
theorem fromE_c {E : AW → Prop} (hE : Stable r E) {d : Int} {g : Nat} {fs cs : List Value} {more : Tr → ByteArray → SM Tr} {ws : List ByteArray} (hw0 : ws.length ≤ 1000) (hsh : ∀ p x, Shr (more p x))
    (hf : ∀ σ s lo v p x, E σ → RdS σ r b T d s → lo ≤ σ.next → TE 6 σ (fun k => lo ≤ k) v p → x ∈ ws → C Tryz.prog g (fs ++ [v, .string x] ++ cs) σ fun v' σ' => TE 6 σ' (fun k => lo ≤ k) v' (more p x s).1 ∧ RdS σ' r b T d (more p x s).2 ∧ Gr r σ σ')
    {σ : AW} {s : Sy} (he : E σ) (h : RdS σ r b T d s) {lo w c e z : Nat} (hlo : lo ≤ σ.next) {v p : Value} (hv : TE 6 σ (fun k => lo ≤ k) v p) (hw : σ.get w = ⟨1, e, z, ws.map Value.string⟩) (hwr : w ≠ r) (hwn : w < σ.next) :
    C Tryz.prog 59 [.pointer (some ⟨r, 0, none⟩), v, .func (.func g) ⟨fs⟩ ⟨cs⟩, .slice (some ⟨w, 0, none⟩) ws.length c] σ fun v' σ' => TE 6 σ' (fun k => lo ≤ k) v' (fromLeftS more ws p s).1 ∧ RdS σ' r b T d (fromLeftS more ws p s).2 ∧ Gr r σ σ' := by
  have hlr := h.lr
  have hlb := h.lb
  obtain ⟨hv1, l, rfl, hl, ho⟩ := hv
  refine C_enter rfl Tryz.func59 rfl Tryz.ntmps59 Tryz.results59 (Nat.le_of_ble_eq_true rfl) ?_; intro A hz hA; have a0 := hA 0 _ rfl; have a1 := hA 1 _ rfl; have a2 := hA 2 _ rfl; have a3 := hA 3 _ rfl; clear hA
  repeat (first | apply s_R | apply o_n | ((first | apply o_p | (refine' o_g rfl rfl ?_ ?_; rotate_left) | apply w_c); (focus simp (disch := first | decide | (try simp only [zz, hz]) <;> omega | fail) only [go_sem, hz, a0, a1, a2, a3, hl, ho] <;> rfl); with_reducible first | apply o_i | apply g_1 | apply g_2 | apply g_3 | apply g_4 | apply c_1 | apply c_2) | apply r_E | apply b_k | apply s_k | apply s_q)
  refine W_scopeL (fun m B σ1 => ∃ s1 l1 p1, s1.left.length ≤ m ∧ B.size = 23 ∧ B.get 0 = some (.pointer (some ⟨r, 0, none⟩)) ∧ B.get 2 = some (.func (.func g) ⟨fs⟩ ⟨cs⟩) ∧ B.get 3 = some (.slice (some ⟨w, 0, none⟩) ws.length c) ∧ B.get 5 = some (.pointer (some ⟨σ.next, 0, none⟩)) ∧ B.get 8 = some (.pointer (some ⟨σ.next + 1, 0, none⟩)) ∧ RdS σ1 r b T d s1 ∧ Gr r σ σ1 ∧ σ.next + 2 ≤ σ1.next ∧ σ1.get σ.next = ⟨1, 37, 0, l1⟩ ∧ σ1.get (σ.next + 1) = ⟨1, 37, 0, [.int .i64 0, .int .i64 0, .string ⟨#[]⟩, .string ⟨#[]⟩, .slice none 0 0, .slice none 0 0]⟩ ∧ TE 6 σ1 (fun k => lo ≤ k) (.agg ⟨l1⟩) p1 ∧ loopS (flStep more ws) m p1 s1 = fromLeftS more ws p s) ?_ (m := s.left.length) ⟨s, l, p, Nat.le_refl _, (by simp (disch := first | decide | (try simp only [zz, hz]) <;> omega | fail) only [go_sem, hz] <;> rfl), (by simp (disch := first | decide | (try simp only [zz, hz]) <;> omega | fail) only [go_sem, hz, a0] <;> rfl), (by simp (disch := first | decide | (try simp only [zz, hz]) <;> omega | fail) only [go_sem, hz, a2] <;> rfl), (by simp (disch := first | decide | (try simp only [zz, hz]) <;> omega | fail) only [go_sem, hz, a3] <;> rfl), (by simp (disch := first | decide | (try simp only [zz, hz]) <;> omega | fail) only [go_sem, hz] <;> rfl), (by simp (disch := first | decide | (try simp only [zz, hz]) <;> omega | fail) only [go_sem, hz] <;> rfl), h.kp (((Kp.refl σ).push _).push _), (((Gr.refl r σ).push _).push _), Nat.le_refl _, ?_, ?_, TE.ks ⟨hv1, l, rfl, hl, ho⟩ (((Ks.refl σ).push _).push _), rfl⟩
  · rintro m B σ1 ⟨s1, l1, p1, hm, hz, b0, b2, b3, b5, b8, h1, g1, nx, gN, gM, t1, hloop⟩
    have hw1 := (g1.get w hwn hwr).trans hw
    obtain ⟨q1, _, e1, hl1, ho1⟩ := t1
    injection e1 with e1
    injection e1 with e1
    subst e1
    repeat (first | apply s_R | apply o_n | ((first | apply o_p | (refine' o_g rfl rfl ?_ ?_; rotate_left) | apply w_c); (focus simp (disch := first | decide | (try simp only [zz, hz]) <;> omega | fail) only [go_sem, hz, b0, b2, b3, b5, b8] <;> rfl); with_reducible first | apply o_i | apply g_1 | apply g_2 | apply g_3 | apply g_4 | apply c_1 | apply c_2) | apply r_E | apply b_k | apply s_k | apply s_q)
    refine O_call (by simp (disch := first | decide | (try simp only [zz, hz]) <;> omega | fail) only [go_sem, hz, b0, b2, b3, b5, b8] <;> rfl) ?_
    refine C.mono (takeAny_c h1 hw1 (by omega) hw0) ?_
    rintro _ σ2 ⟨rfl, h2, g2⟩
    have gN2 := (g2.get σ.next (by omega) (by omega)).trans gN
    have gM2 := (g2.get (σ.next + 1) (by omega) (by omega)).trans gM
    have nx2 := g2.next
    have t2 := TE.ks ⟨q1, l1, rfl, hl1, ho1⟩ (g2.ks h1.ez)
    obtain ⟨i1, hi1, hi2, _⟩ := h1.head
    have hpos : 0 < s1.left.length := by rw [hi2, List.length_drop]; have := hi1.li; omega
    obtain ⟨m, rfl⟩ : ∃ k, m = k + 1 := ⟨m - 1, by omega⟩
    cases ho : (takeAnyS ws s1).1 with
    | some x =>
      obtain ⟨hx, hlt⟩ := takeAny_some hpos ho
      rw [fl_some ho] at hloop
      simp only [anyV]
      repeat (first | apply s_R | apply o_n | ((first | apply o_p | (refine' o_g rfl rfl ?_ ?_; rotate_left) | apply w_c); (focus simp (disch := first | decide | (try simp only [zz, hz]) <;> omega | fail) only [go_sem, hz, b0, b2, b3, b5, b8, gN2, gM2, hl1] <;> rfl); with_reducible first | apply o_i | apply g_1 | apply g_2 | apply g_3 | apply g_4 | apply c_1 | apply c_2) | apply r_E | apply b_k | apply s_k | apply s_q)
      refine O_call (by simp (disch := first | decide | (try simp only [zz, hz]) <;> omega | fail) only [go_sem, hz, b0, b2, b3, b5, b8, gN2, gM2, hl1] <;> rfl) ?_
      have g12 := g1.trans g2
      refine C.mono (hf σ2 (takeAnyS ws s1).2 lo _ p1 x (hE _ _ he g12) h2 (by omega) t2 hx) ?_
      rintro _ σ3 ⟨⟨t3, l3, rfl, hl3, ho3⟩, h3, g3⟩
      have gN3 := (g3.get σ.next (by omega) (by omega)).trans gN2
      have gM3 := (g3.get (σ.next + 1) (by omega) (by omega)).trans gM2
      have nx3 := g3.next
      repeat (first | apply s_R | apply o_n | ((first | apply o_p | (refine' o_g rfl rfl ?_ ?_; rotate_left) | apply w_c); (focus simp (disch := first | decide | (try simp only [zz, hz]) <;> omega | fail) only [go_sem, hz, b0, b2, b3, b5, b8, gN3, gM3, hl3, ho3, hl1] <;> rfl); with_reducible first | apply o_i | apply g_1 | apply g_2 | apply g_3 | apply g_4 | apply c_1 | apply c_2) | apply r_E | apply b_k | apply s_k | apply s_q)
      refine W_goto ?_
      simp only [Then, Out, JumpL]
      refine ⟨trivial, m, Nat.lt_succ_self _, (more p1 x (takeAnyS ws s1).2).2, l3, (more p1 x (takeAnyS ws s1).2).1, ?_, (by simp (disch := first | decide | (try simp only [zz, hz]) <;> omega | fail) only [go_sem, hz] <;> rfl), (by simp (disch := first | decide | (try simp only [zz, hz]) <;> omega | fail) only [go_sem, hz, b0] <;> rfl), (by simp (disch := first | decide | (try simp only [zz, hz]) <;> omega | fail) only [go_sem, hz, b2] <;> rfl), (by simp (disch := first | decide | (try simp only [zz, hz]) <;> omega | fail) only [go_sem, hz, b3] <;> rfl), (by simp (disch := first | decide | (try simp only [zz, hz]) <;> omega | fail) only [go_sem, hz, b5] <;> rfl), (by simp (disch := first | decide | (try simp only [zz, hz]) <;> omega | fail) only [go_sem, hz, b8] <;> rfl), h3.ow ((Ow.refl σ.next σ3).set (Nat.le_refl _) _) hlr hlb, (g12.trans g3).ow ((Ow.refl σ.next σ3).set (Nat.le_refl _) _), by rw [set_next]; omega, by rw [set_eq], by rw [set_ne (by omega)]; exact gM3, TE.ks ⟨t3, l3, rfl, hl3, ho3⟩ ((Ks.refl σ3).set (.inr (by rw [gN3])) _), hloop⟩
      have := hsh p1 x (takeAnyS ws s1).2
      omega
    | none =>
      rw [fl_none ho] at hloop
      simp only [anyV]
      repeat (first | apply s_R | apply o_n | ((first | apply o_p | (refine' o_g rfl rfl ?_ ?_; rotate_left) | apply w_c); (focus simp (disch := first | decide | (try simp only [zz, hz]) <;> omega | fail) only [go_sem, hz, b0, b2, b3, b5, b8, gN2, gM2, hl1, ho1] <;> rfl); with_reducible first | apply o_i | apply g_1 | apply g_2 | apply g_3 | apply g_4 | apply c_1 | apply c_2) | apply r_E | apply b_k | apply s_k | apply s_q)
      refine W_ret ?_; (try simp only [Then, Out, Jump, JumpL]); refine ret_mk (by simp (disch := first | decide | (try simp only [zz, hz]) <;> omega | fail) only [go_sem, hz, b8, gM2, hl1] <;> rfl) ?_; (try simp only [resultA])
      rw [← hloop]
      exact ⟨t2.ks ((Ks.refl σ2).set (.inr (by rw [gM2])) _), h2.ow ((Ow.refl σ.next σ2).set (by omega) _) hlr hlb, (g1.trans g2).ow ((Ow.refl σ.next σ2).set (by omega) _)⟩
  · rw [push_ne (by simp only [push_next]; omega), push_eq]
  · exact push_eq
theorem fromQ_c {E : AW → Prop} (hE : Stable r E) {d : Int} {g : Nat} {fs cs : List Value} {more : Tr → ByteArray → SM Tr} {ws : List ByteArray} (hw0 : ws.length ≤ 1000) (hsh : ∀ p x, Shr (more p x))
    (hf : ∀ σ s lo v p x, E σ → RdS σ r b T d s → lo ≤ σ.next → TE 10 σ (fun k => lo ≤ k) v p → x ∈ ws → C Tryz.prog g (fs ++ [v, .string x] ++ cs) σ fun v' σ' => TE 10 σ' (fun k => lo ≤ k) v' (more p x s).1 ∧ RdS σ' r b T d (more p x s).2 ∧ Gr r σ σ')
    {σ : AW} {s : Sy} (he : E σ) (h : RdS σ r b T d s) {lo w c e z : Nat} (hlo : lo ≤ σ.next) {v p : Value} (hv : TE 10 σ (fun k => lo ≤ k) v p) (hw : σ.get w = ⟨1, e, z, ws.map Value.string⟩) (hwr : w ≠ r) (hwn : w < σ.next) :
    C Tryz.prog 38 [.pointer (some ⟨r, 0, none⟩), v, .func (.func g) ⟨fs⟩ ⟨cs⟩, .slice (some ⟨w, 0, none⟩) ws.length c] σ fun v' σ' => TE 10 σ' (fun k => lo ≤ k) v' (fromLeftS more ws p s).1 ∧ RdS σ' r b T d (fromLeftS more ws p s).2 ∧ Gr r σ σ' := by
  have hlr := h.lr
  have hlb := h.lb
  obtain ⟨hv1, l, rfl, hl, ho⟩ := hv
  refine C_enter rfl Tryz.func38 rfl Tryz.ntmps38 Tryz.results38 (Nat.le_of_ble_eq_true rfl) ?_; intro A hz hA; have a0 := hA 0 _ rfl; have a1 := hA 1 _ rfl; have a2 := hA 2 _ rfl; have a3 := hA 3 _ rfl; clear hA
  repeat (first | apply s_R | apply o_n | ((first | apply o_p | (refine' o_g rfl rfl ?_ ?_; rotate_left) | apply w_c); (focus simp (disch := first | decide | (try simp only [zz, hz]) <;> omega | fail) only [go_sem, hz, a0, a1, a2, a3, hl, ho] <;> rfl); with_reducible first | apply o_i | apply g_1 | apply g_2 | apply g_3 | apply g_4 | apply c_1 | apply c_2) | apply r_E | apply b_k | apply s_k | apply s_q)
  refine W_scopeL (fun m B σ1 => ∃ s1 l1 p1, s1.left.length ≤ m ∧ B.size = 23 ∧ B.get 0 = some (.pointer (some ⟨r, 0, none⟩)) ∧ B.get 2 = some (.func (.func g) ⟨fs⟩ ⟨cs⟩) ∧ B.get 3 = some (.slice (some ⟨w, 0, none⟩) ws.length c) ∧ B.get 5 = some (.pointer (some ⟨σ.next, 0, none⟩)) ∧ B.get 8 = some (.pointer (some ⟨σ.next + 1, 0, none⟩)) ∧ RdS σ1 r b T d s1 ∧ Gr r σ σ1 ∧ σ.next + 2 ≤ σ1.next ∧ σ1.get σ.next = ⟨1, 44, 0, l1⟩ ∧ σ1.get (σ.next + 1) = ⟨1, 44, 0, [.int .i64 0, .bool false, .slice none 0 0, .slice none 0 0, .slice none 0 0, .slice none 0 0, .slice none 0 0, .slice none 0 0, .int .i64 0, .slice none 0 0]⟩ ∧ TE 10 σ1 (fun k => lo ≤ k) (.agg ⟨l1⟩) p1 ∧ loopS (flStep more ws) m p1 s1 = fromLeftS more ws p s) ?_ (m := s.left.length) ⟨s, l, p, Nat.le_refl _, (by simp (disch := first | decide | (try simp only [zz, hz]) <;> omega | fail) only [go_sem, hz] <;> rfl), (by simp (disch := first | decide | (try simp only [zz, hz]) <;> omega | fail) only [go_sem, hz, a0] <;> rfl), (by simp (disch := first | decide | (try simp only [zz, hz]) <;> omega | fail) only [go_sem, hz, a2] <;> rfl), (by simp (disch := first | decide | (try simp only [zz, hz]) <;> omega | fail) only [go_sem, hz, a3] <;> rfl), (by simp (disch := first | decide | (try simp only [zz, hz]) <;> omega | fail) only [go_sem, hz] <;> rfl), (by simp (disch := first | decide | (try simp only [zz, hz]) <;> omega | fail) only [go_sem, hz] <;> rfl), h.kp (((Kp.refl σ).push _).push _), (((Gr.refl r σ).push _).push _), Nat.le_refl _, ?_, ?_, TE.ks ⟨hv1, l, rfl, hl, ho⟩ (((Ks.refl σ).push _).push _), rfl⟩
  · rintro m B σ1 ⟨s1, l1, p1, hm, hz, b0, b2, b3, b5, b8, h1, g1, nx, gN, gM, t1, hloop⟩
    have hw1 := (g1.get w hwn hwr).trans hw
    obtain ⟨q1, _, e1, hl1, ho1⟩ := t1
    injection e1 with e1
    injection e1 with e1
    subst e1
    repeat (first | apply s_R | apply o_n | ((first | apply o_p | (refine' o_g rfl rfl ?_ ?_; rotate_left) | apply w_c); (focus simp (disch := first | decide | (try simp only [zz, hz]) <;> omega | fail) only [go_sem, hz, b0, b2, b3, b5, b8] <;> rfl); with_reducible first | apply o_i | apply g_1 | apply g_2 | apply g_3 | apply g_4 | apply c_1 | apply c_2) | apply r_E | apply b_k | apply s_k | apply s_q)
    refine O_call (by simp (disch := first | decide | (try simp only [zz, hz]) <;> omega | fail) only [go_sem, hz, b0, b2, b3, b5, b8] <;> rfl) ?_
    refine C.mono (takeAny_c h1 hw1 (by omega) hw0) ?_
    rintro _ σ2 ⟨rfl, h2, g2⟩
    have gN2 := (g2.get σ.next (by omega) (by omega)).trans gN
    have gM2 := (g2.get (σ.next + 1) (by omega) (by omega)).trans gM
    have nx2 := g2.next
    have t2 := TE.ks ⟨q1, l1, rfl, hl1, ho1⟩ (g2.ks h1.ez)
    obtain ⟨i1, hi1, hi2, _⟩ := h1.head
    have hpos : 0 < s1.left.length := by rw [hi2, List.length_drop]; have := hi1.li; omega
    obtain ⟨m, rfl⟩ : ∃ k, m = k + 1 := ⟨m - 1, by omega⟩
    cases ho : (takeAnyS ws s1).1 with
    | some x =>
      obtain ⟨hx, hlt⟩ := takeAny_some hpos ho
      rw [fl_some ho] at hloop
      simp only [anyV]
      repeat (first | apply s_R | apply o_n | ((first | apply o_p | (refine' o_g rfl rfl ?_ ?_; rotate_left) | apply w_c); (focus simp (disch := first | decide | (try simp only [zz, hz]) <;> omega | fail) only [go_sem, hz, b0, b2, b3, b5, b8, gN2, gM2, hl1] <;> rfl); with_reducible first | apply o_i | apply g_1 | apply g_2 | apply g_3 | apply g_4 | apply c_1 | apply c_2) | apply r_E | apply b_k | apply s_k | apply s_q)
      refine O_call (by simp (disch := first | decide | (try simp only [zz, hz]) <;> omega | fail) only [go_sem, hz, b0, b2, b3, b5, b8, gN2, gM2, hl1] <;> rfl) ?_
      have g12 := g1.trans g2
      refine C.mono (hf σ2 (takeAnyS ws s1).2 lo _ p1 x (hE _ _ he g12) h2 (by omega) t2 hx) ?_
      rintro _ σ3 ⟨⟨t3, l3, rfl, hl3, ho3⟩, h3, g3⟩
      have gN3 := (g3.get σ.next (by omega) (by omega)).trans gN2
      have gM3 := (g3.get (σ.next + 1) (by omega) (by omega)).trans gM2
      have nx3 := g3.next
      repeat (first | apply s_R | apply o_n | ((first | apply o_p | (refine' o_g rfl rfl ?_ ?_; rotate_left) | apply w_c); (focus simp (disch := first | decide | (try simp only [zz, hz]) <;> omega | fail) only [go_sem, hz, b0, b2, b3, b5, b8, gN3, gM3, hl3, ho3, hl1] <;> rfl); with_reducible first | apply o_i | apply g_1 | apply g_2 | apply g_3 | apply g_4 | apply c_1 | apply c_2) | apply r_E | apply b_k | apply s_k | apply s_q)
      refine W_goto ?_
      simp only [Then, Out, JumpL]
      refine ⟨trivial, m, Nat.lt_succ_self _, (more p1 x (takeAnyS ws s1).2).2, l3, (more p1 x (takeAnyS ws s1).2).1, ?_, (by simp (disch := first | decide | (try simp only [zz, hz]) <;> omega | fail) only [go_sem, hz] <;> rfl), (by simp (disch := first | decide | (try simp only [zz, hz]) <;> omega | fail) only [go_sem, hz, b0] <;> rfl), (by simp (disch := first | decide | (try simp only [zz, hz]) <;> omega | fail) only [go_sem, hz, b2] <;> rfl), (by simp (disch := first | decide | (try simp only [zz, hz]) <;> omega | fail) only [go_sem, hz, b3] <;> rfl), (by simp (disch := first | decide | (try simp only [zz, hz]) <;> omega | fail) only [go_sem, hz, b5] <;> rfl), (by simp (disch := first | decide | (try simp only [zz, hz]) <;> omega | fail) only [go_sem, hz, b8] <;> rfl), h3.ow ((Ow.refl σ.next σ3).set (Nat.le_refl _) _) hlr hlb, (g12.trans g3).ow ((Ow.refl σ.next σ3).set (Nat.le_refl _) _), by rw [set_next]; omega, by rw [set_eq], by rw [set_ne (by omega)]; exact gM3, TE.ks ⟨t3, l3, rfl, hl3, ho3⟩ ((Ks.refl σ3).set (.inr (by rw [gN3])) _), hloop⟩
      have := hsh p1 x (takeAnyS ws s1).2
      omega
    | none =>
      rw [fl_none ho] at hloop
      simp only [anyV]
      repeat (first | apply s_R | apply o_n | ((first | apply o_p | (refine' o_g rfl rfl ?_ ?_; rotate_left) | apply w_c); (focus simp (disch := first | decide | (try simp only [zz, hz]) <;> omega | fail) only [go_sem, hz, b0, b2, b3, b5, b8, gN2, gM2, hl1, ho1] <;> rfl); with_reducible first | apply o_i | apply g_1 | apply g_2 | apply g_3 | apply g_4 | apply c_1 | apply c_2) | apply r_E | apply b_k | apply s_k | apply s_q)
      refine W_ret ?_; (try simp only [Then, Out, Jump, JumpL]); refine ret_mk (by simp (disch := first | decide | (try simp only [zz, hz]) <;> omega | fail) only [go_sem, hz, b8, gM2, hl1] <;> rfl) ?_; (try simp only [resultA])
      rw [← hloop]
      exact ⟨t2.ks ((Ks.refl σ2).set (.inr (by rw [gM2])) _), h2.ow ((Ow.refl σ.next σ2).set (by omega) _) hlr hlb, (g1.trans g2).ow ((Ow.refl σ.next σ2).set (by omega) _)⟩
  · rw [push_ne (by simp only [push_next]; omega), push_eq]
  · exact push_eq
theorem fromF_c {E : AW → Prop} (hE : Stable r E) {d : Int} {g : Nat} {fs cs : List Value} {more : Tr → ByteArray → SM Tr} {ws : List ByteArray} (hw0 : ws.length ≤ 1000) (hsh : ∀ p x, Shr (more p x))
    (hf : ∀ σ s lo v p x, E σ → RdS σ r b T d s → lo ≤ σ.next → TE 7 σ (fun k => lo ≤ k) v p → x ∈ ws → C Tryz.prog g (fs ++ [v, .string x] ++ cs) σ fun v' σ' => TE 7 σ' (fun k => lo ≤ k) v' (more p x s).1 ∧ RdS σ' r b T d (more p x s).2 ∧ Gr r σ σ')
    {σ : AW} {s : Sy} (he : E σ) (h : RdS σ r b T d s) {lo w c e z : Nat} (hlo : lo ≤ σ.next) {v p : Value} (hv : TE 7 σ (fun k => lo ≤ k) v p) (hw : σ.get w = ⟨1, e, z, ws.map Value.string⟩) (hwr : w ≠ r) (hwn : w < σ.next) :
    C Tryz.prog 94 [.pointer (some ⟨r, 0, none⟩), v, .func (.func g) ⟨fs⟩ ⟨cs⟩, .slice (some ⟨w, 0, none⟩) ws.length c] σ fun v' σ' => TE 7 σ' (fun k => lo ≤ k) v' (fromLeftS more ws p s).1 ∧ RdS σ' r b T d (fromLeftS more ws p s).2 ∧ Gr r σ σ' := by
  have hlr := h.lr
  have hlb := h.lb
  obtain ⟨hv1, l, rfl, hl, ho⟩ := hv
  refine C_enter rfl Tryz.func94 rfl Tryz.ntmps94 Tryz.results94 (Nat.le_of_ble_eq_true rfl) ?_; intro A hz hA; have a0 := hA 0 _ rfl; have a1 := hA 1 _ rfl; have a2 := hA 2 _ rfl; have a3 := hA 3 _ rfl; clear hA
  repeat (first | apply s_R | apply o_n | ((first | apply o_p | (refine' o_g rfl rfl ?_ ?_; rotate_left) | apply w_c); (focus simp (disch := first | decide | (try simp only [zz, hz]) <;> omega | fail) only [go_sem, hz, a0, a1, a2, a3, hl, ho] <;> rfl); with_reducible first | apply o_i | apply g_1 | apply g_2 | apply g_3 | apply g_4 | apply c_1 | apply c_2) | apply r_E | apply b_k | apply s_k | apply s_q)
  refine W_scopeL (fun m B σ1 => ∃ s1 l1 p1, s1.left.length ≤ m ∧ B.size = 23 ∧ B.get 0 = some (.pointer (some ⟨r, 0, none⟩)) ∧ B.get 2 = some (.func (.func g) ⟨fs⟩ ⟨cs⟩) ∧ B.get 3 = some (.slice (some ⟨w, 0, none⟩) ws.length c) ∧ B.get 5 = some (.pointer (some ⟨σ.next, 0, none⟩)) ∧ B.get 8 = some (.pointer (some ⟨σ.next + 1, 0, none⟩)) ∧ RdS σ1 r b T d s1 ∧ Gr r σ σ1 ∧ σ.next + 2 ≤ σ1.next ∧ σ1.get σ.next = ⟨1, 48, 0, l1⟩ ∧ σ1.get (σ.next + 1) = ⟨1, 48, 0, [.int .i64 0, .string ⟨#[]⟩, .bool false, .string ⟨#[]⟩, .slice none 0 0, .slice none 0 0, .slice none 0 0]⟩ ∧ TE 7 σ1 (fun k => lo ≤ k) (.agg ⟨l1⟩) p1 ∧ loopS (flStep more ws) m p1 s1 = fromLeftS more ws p s) ?_ (m := s.left.length) ⟨s, l, p, Nat.le_refl _, (by simp (disch := first | decide | (try simp only [zz, hz]) <;> omega | fail) only [go_sem, hz] <;> rfl), (by simp (disch := first | decide | (try simp only [zz, hz]) <;> omega | fail) only [go_sem, hz, a0] <;> rfl), (by simp (disch := first | decide | (try simp only [zz, hz]) <;> omega | fail) only [go_sem, hz, a2] <;> rfl), (by simp (disch := first | decide | (try simp only [zz, hz]) <;> omega | fail) only [go_sem, hz, a3] <;> rfl), (by simp (disch := first | decide | (try simp only [zz, hz]) <;> omega | fail) only [go_sem, hz] <;> rfl), (by simp (disch := first | decide | (try simp only [zz, hz]) <;> omega | fail) only [go_sem, hz] <;> rfl), h.kp (((Kp.refl σ).push _).push _), (((Gr.refl r σ).push _).push _), Nat.le_refl _, ?_, ?_, TE.ks ⟨hv1, l, rfl, hl, ho⟩ (((Ks.refl σ).push _).push _), rfl⟩
  · rintro m B σ1 ⟨s1, l1, p1, hm, hz, b0, b2, b3, b5, b8, h1, g1, nx, gN, gM, t1, hloop⟩
    have hw1 := (g1.get w hwn hwr).trans hw
    obtain ⟨q1, _, e1, hl1, ho1⟩ := t1
    injection e1 with e1
    injection e1 with e1
    subst e1
    repeat (first | apply s_R | apply o_n | ((first | apply o_p | (refine' o_g rfl rfl ?_ ?_; rotate_left) | apply w_c); (focus simp (disch := first | decide | (try simp only [zz, hz]) <;> omega | fail) only [go_sem, hz, b0, b2, b3, b5, b8] <;> rfl); with_reducible first | apply o_i | apply g_1 | apply g_2 | apply g_3 | apply g_4 | apply c_1 | apply c_2) | apply r_E | apply b_k | apply s_k | apply s_q)
    refine O_call (by simp (disch := first | decide | (try simp only [zz, hz]) <;> omega | fail) only [go_sem, hz, b0, b2, b3, b5, b8] <;> rfl) ?_
    refine C.mono (takeAny_c h1 hw1 (by omega) hw0) ?_
    rintro _ σ2 ⟨rfl, h2, g2⟩
    have gN2 := (g2.get σ.next (by omega) (by omega)).trans gN
    have gM2 := (g2.get (σ.next + 1) (by omega) (by omega)).trans gM
    have nx2 := g2.next
    have t2 := TE.ks ⟨q1, l1, rfl, hl1, ho1⟩ (g2.ks h1.ez)
    obtain ⟨i1, hi1, hi2, _⟩ := h1.head
    have hpos : 0 < s1.left.length := by rw [hi2, List.length_drop]; have := hi1.li; omega
    obtain ⟨m, rfl⟩ : ∃ k, m = k + 1 := ⟨m - 1, by omega⟩
    cases ho : (takeAnyS ws s1).1 with
    | some x =>
      obtain ⟨hx, hlt⟩ := takeAny_some hpos ho
      rw [fl_some ho] at hloop
      simp only [anyV]
      repeat (first | apply s_R | apply o_n | ((first | apply o_p | (refine' o_g rfl rfl ?_ ?_; rotate_left) | apply w_c); (focus simp (disch := first | decide | (try simp only [zz, hz]) <;> omega | fail) only [go_sem, hz, b0, b2, b3, b5, b8, gN2, gM2, hl1] <;> rfl); with_reducible first | apply o_i | apply g_1 | apply g_2 | apply g_3 | apply g_4 | apply c_1 | apply c_2) | apply r_E | apply b_k | apply s_k | apply s_q)
      refine O_call (by simp (disch := first | decide | (try simp only [zz, hz]) <;> omega | fail) only [go_sem, hz, b0, b2, b3, b5, b8, gN2, gM2, hl1] <;> rfl) ?_
      have g12 := g1.trans g2
      refine C.mono (hf σ2 (takeAnyS ws s1).2 lo _ p1 x (hE _ _ he g12) h2 (by omega) t2 hx) ?_
      rintro _ σ3 ⟨⟨t3, l3, rfl, hl3, ho3⟩, h3, g3⟩
      have gN3 := (g3.get σ.next (by omega) (by omega)).trans gN2
      have gM3 := (g3.get (σ.next + 1) (by omega) (by omega)).trans gM2
      have nx3 := g3.next
      repeat (first | apply s_R | apply o_n | ((first | apply o_p | (refine' o_g rfl rfl ?_ ?_; rotate_left) | apply w_c); (focus simp (disch := first | decide | (try simp only [zz, hz]) <;> omega | fail) only [go_sem, hz, b0, b2, b3, b5, b8, gN3, gM3, hl3, ho3, hl1] <;> rfl); with_reducible first | apply o_i | apply g_1 | apply g_2 | apply g_3 | apply g_4 | apply c_1 | apply c_2) | apply r_E | apply b_k | apply s_k | apply s_q)
      refine W_goto ?_
      simp only [Then, Out, JumpL]
      refine ⟨trivial, m, Nat.lt_succ_self _, (more p1 x (takeAnyS ws s1).2).2, l3, (more p1 x (takeAnyS ws s1).2).1, ?_, (by simp (disch := first | decide | (try simp only [zz, hz]) <;> omega | fail) only [go_sem, hz] <;> rfl), (by simp (disch := first | decide | (try simp only [zz, hz]) <;> omega | fail) only [go_sem, hz, b0] <;> rfl), (by simp (disch := first | decide | (try simp only [zz, hz]) <;> omega | fail) only [go_sem, hz, b2] <;> rfl), (by simp (disch := first | decide | (try simp only [zz, hz]) <;> omega | fail) only [go_sem, hz, b3] <;> rfl), (by simp (disch := first | decide | (try simp only [zz, hz]) <;> omega | fail) only [go_sem, hz, b5] <;> rfl), (by simp (disch := first | decide | (try simp only [zz, hz]) <;> omega | fail) only [go_sem, hz, b8] <;> rfl), h3.ow ((Ow.refl σ.next σ3).set (Nat.le_refl _) _) hlr hlb, (g12.trans g3).ow ((Ow.refl σ.next σ3).set (Nat.le_refl _) _), by rw [set_next]; omega, by rw [set_eq], by rw [set_ne (by omega)]; exact gM3, TE.ks ⟨t3, l3, rfl, hl3, ho3⟩ ((Ks.refl σ3).set (.inr (by rw [gN3])) _), hloop⟩
      have := hsh p1 x (takeAnyS ws s1).2
      omega
    | none =>
      rw [fl_none ho] at hloop
      simp only [anyV]
      repeat (first | apply s_R | apply o_n | ((first | apply o_p | (refine' o_g rfl rfl ?_ ?_; rotate_left) | apply w_c); (focus simp (disch := first | decide | (try simp only [zz, hz]) <;> omega | fail) only [go_sem, hz, b0, b2, b3, b5, b8, gN2, gM2, hl1, ho1] <;> rfl); with_reducible first | apply o_i | apply g_1 | apply g_2 | apply g_3 | apply g_4 | apply c_1 | apply c_2) | apply r_E | apply b_k | apply s_k | apply s_q)
      refine W_ret ?_; (try simp only [Then, Out, Jump, JumpL]); refine ret_mk (by simp (disch := first | decide | (try simp only [zz, hz]) <;> omega | fail) only [go_sem, hz, b8, gM2, hl1] <;> rfl) ?_; (try simp only [resultA])
      rw [← hloop]
      exact ⟨t2.ks ((Ks.refl σ2).set (.inr (by rw [gM2])) _), h2.ow ((Ow.refl σ.next σ2).set (by omega) _) hlr hlb, (g1.trans g2).ow ((Ow.refl σ.next σ2).set (by omega) _)⟩
  · rw [push_ne (by simp only [push_next]; omega), push_eq]
  · exact push_eq
theorem inbE_c {E : AW → Prop} (hE : Stable r E) {d : Int} {g : Nat} {fs cs : List Value} {m : SM Tr} (hf : Reads E 6 r b T d g (fs ++ cs) m) :
    Reads E 6 r b T d 135 [.pointer (some ⟨r, 0, none⟩), .func (.func g) ⟨fs⟩ ⟨cs⟩] (inBracketsS m) := by
  intro σ s he h
  have hlr := h.lr
  have hlb := h.lb
  refine C_enter rfl Tryz.func135 rfl Tryz.ntmps135 Tryz.results135 (Nat.le_of_ble_eq_true rfl) ?_; intro A hz hA; have a0 := hA 0 _ rfl; have a1 := hA 1 _ rfl; clear hA
  repeat (first | apply s_R | apply o_n | ((first | apply o_p | (refine' o_g rfl rfl ?_ ?_; rotate_left) | apply w_c); (focus simp (disch := first | decide | (try simp only [zz, hz]) <;> omega | fail) only [go_sem, hz, a0, a1] <;> rfl); with_reducible first | apply o_i | apply g_1 | apply g_2 | apply g_3 | apply g_4 | apply c_1 | apply c_2) | apply r_E | apply b_k | apply s_k | apply s_q)
  refine O_call (by simp (disch := first | decide | (try simp only [zz, hz]) <;> omega | fail) only [go_sem, hz, a0, a1] <;> rfl) ?_
  refine C.mono (want_c (h.kp ((Kp.refl σ).push _)) m_lp) ?_
  rintro _ σ1 ⟨h1, g1⟩
  have gN1 := (g1.get σ.next (Nat.lt_succ_self _) (by omega)).trans push_eq
  have nx1 := g1.next
  simp only [push_next] at nx1
  repeat (first | apply s_R | apply o_n | ((first | apply o_p | (refine' o_g rfl rfl ?_ ?_; rotate_left) | apply w_c); (focus simp (disch := first | decide | (try simp only [zz, hz]) <;> omega | fail) only [go_sem, hz, a0, a1] <;> rfl); with_reducible first | apply o_i | apply g_1 | apply g_2 | apply g_3 | apply g_4 | apply c_1 | apply c_2) | apply r_E | apply b_k | apply s_k | apply s_q)
  refine O_call (by simp (disch := first | decide | (try simp only [zz, hz]) <;> omega | fail) only [go_sem, hz, a0, a1] <;> rfl) ?_
  refine C.mono (hf _ _ (hE _ _ he g1.unpush) h1) ?_
  rintro _ σ2 ⟨⟨t2, l, rfl, hl, ho⟩, h2, g2⟩
  have gN2 := (g2.get σ.next (by omega) (by omega)).trans gN1
  have nx2 := g2.next
  repeat (first | apply s_R | apply o_n | ((first | apply o_p | (refine' o_g rfl rfl ?_ ?_; rotate_left) | apply w_c); (focus simp (disch := first | decide | (try simp only [zz, hz]) <;> omega | fail) only [go_sem, hz, a0, a1, hl, ho] <;> rfl); with_reducible first | apply o_i | apply g_1 | apply g_2 | apply g_3 | apply g_4 | apply c_1 | apply c_2) | apply r_E | apply b_k | apply s_k | apply s_q)
  refine O_call (by simp (disch := first | decide | (try simp only [zz, hz]) <;> omega | fail) only [go_sem, hz, a0, a1, hl, ho] <;> rfl) ?_
  refine C.mono (want_c (h2.ow (((Ow.refl σ.next σ2).push _).set (by omega) _) hlr hlb) m_rp) ?_
  rintro _ σ3 ⟨h3, g3⟩
  have gN3 := (g3.get σ.next (by rw [set_next, push_next]; omega) (by omega)).trans ((set_ne (by omega)).trans ((push_ne (by omega)).trans gN2))
  have gM3 := (g3.get σ2.next (by rw [set_next, push_next]; omega) (by omega)).trans set_eq
  have nx3 := g3.next
  simp only [push_next, set_next] at nx3
  repeat (first | apply s_R | apply o_n | ((first | apply o_p | (refine' o_g rfl rfl ?_ ?_; rotate_left) | apply w_c); (focus simp (disch := first | decide | (try simp only [zz, hz]) <;> omega | fail) only [go_sem, hz, a0, a1, hl, ho, gN3, gM3] <;> rfl); with_reducible first | apply o_i | apply g_1 | apply g_2 | apply g_3 | apply g_4 | apply c_1 | apply c_2) | apply r_E | apply b_k | apply s_k | apply s_q)
  refine W_ret ?_; (try simp only [Then, Out, Jump, JumpL]); refine ret_mk (by simp (disch := first | decide | (try simp only [zz, hz]) <;> omega | fail) only [go_sem, hz, gN3, hl] <;> rfl) ?_; (try simp only [resultA])
  refine post_fin ((Ow.refl _ _).set (Nat.le_refl _) _) (((g1.unpush.trans g2).ow (((Ow.refl σ.next σ2).push _).set (by omega) _)).trans g3) h3 hlr hlb ((TE.ks ⟨t2, l, rfl, hl, ho⟩ (((((Ks.refl σ2).push _).set (.inl (Nat.le_refl _)) _).trans (g3.ks (by rw [set_ne (by omega), push_ne (by omega)]; exact h2.ez))).set (.inr (by rw [gN2])) _)).lo (fun k hk => by have := hk; omega))
theorem inbQ_c {E : AW → Prop} (hE : Stable r E) {d : Int} {g : Nat} {fs cs : List Value} {m : SM Tr} (hf : Reads E 10 r b T d g (fs ++ cs) m) :
    Reads E 10 r b T d 65 [.pointer (some ⟨r, 0, none⟩), .func (.func g) ⟨fs⟩ ⟨cs⟩] (inBracketsS m) := by
  intro σ s he h
  have hlr := h.lr
  have hlb := h.lb
  refine C_enter rfl Tryz.func65 rfl Tryz.ntmps65 Tryz.results65 (Nat.le_of_ble_eq_true rfl) ?_; intro A hz hA; have a0 := hA 0 _ rfl; have a1 := hA 1 _ rfl; clear hA
  repeat (first | apply s_R | apply o_n | ((first | apply o_p | (refine' o_g rfl rfl ?_ ?_; rotate_left) | apply w_c); (focus simp (disch := first | decide | (try simp only [zz, hz]) <;> omega | fail) only [go_sem, hz, a0, a1] <;> rfl); with_reducible first | apply o_i | apply g_1 | apply g_2 | apply g_3 | apply g_4 | apply c_1 | apply c_2) | apply r_E | apply b_k | apply s_k | apply s_q)
  refine O_call (by simp (disch := first | decide | (try simp only [zz, hz]) <;> omega | fail) only [go_sem, hz, a0, a1] <;> rfl) ?_
  refine C.mono (want_c (h.kp ((Kp.refl σ).push _)) m_lp) ?_
  rintro _ σ1 ⟨h1, g1⟩
  have gN1 := (g1.get σ.next (Nat.lt_succ_self _) (by omega)).trans push_eq
  have nx1 := g1.next
  simp only [push_next] at nx1
  repeat (first | apply s_R | apply o_n | ((first | apply o_p | (refine' o_g rfl rfl ?_ ?_; rotate_left) | apply w_c); (focus simp (disch := first | decide | (try simp only [zz, hz]) <;> omega | fail) only [go_sem, hz, a0, a1] <;> rfl); with_reducible first | apply o_i | apply g_1 | apply g_2 | apply g_3 | apply g_4 | apply c_1 | apply c_2) | apply r_E | apply b_k | apply s_k | apply s_q)
  refine O_call (by simp (disch := first | decide | (try simp only [zz, hz]) <;> omega | fail) only [go_sem, hz, a0, a1] <;> rfl) ?_
  refine C.mono (hf _ _ (hE _ _ he g1.unpush) h1) ?_
  rintro _ σ2 ⟨⟨t2, l, rfl, hl, ho⟩, h2, g2⟩
  have gN2 := (g2.get σ.next (by omega) (by omega)).trans gN1
  have nx2 := g2.next
  repeat (first | apply s_R | apply o_n | ((first | apply o_p | (refine' o_g rfl rfl ?_ ?_; rotate_left) | apply w_c); (focus simp (disch := first | decide | (try simp only [zz, hz]) <;> omega | fail) only [go_sem, hz, a0, a1, hl, ho] <;> rfl); with_reducible first | apply o_i | apply g_1 | apply g_2 | apply g_3 | apply g_4 | apply c_1 | apply c_2) | apply r_E | apply b_k | apply s_k | apply s_q)
  refine O_call (by simp (disch := first | decide | (try simp only [zz, hz]) <;> omega | fail) only [go_sem, hz, a0, a1, hl, ho] <;> rfl) ?_
  refine C.mono (want_c (h2.ow (((Ow.refl σ.next σ2).push _).set (by omega) _) hlr hlb) m_rp) ?_
  rintro _ σ3 ⟨h3, g3⟩
  have gN3 := (g3.get σ.next (by rw [set_next, push_next]; omega) (by omega)).trans ((set_ne (by omega)).trans ((push_ne (by omega)).trans gN2))
  have gM3 := (g3.get σ2.next (by rw [set_next, push_next]; omega) (by omega)).trans set_eq
  have nx3 := g3.next
  simp only [push_next, set_next] at nx3
  repeat (first | apply s_R | apply o_n | ((first | apply o_p | (refine' o_g rfl rfl ?_ ?_; rotate_left) | apply w_c); (focus simp (disch := first | decide | (try simp only [zz, hz]) <;> omega | fail) only [go_sem, hz, a0, a1, hl, ho, gN3, gM3] <;> rfl); with_reducible first | apply o_i | apply g_1 | apply g_2 | apply g_3 | apply g_4 | apply c_1 | apply c_2) | apply r_E | apply b_k | apply s_k | apply s_q)
  refine W_ret ?_; (try simp only [Then, Out, Jump, JumpL]); refine ret_mk (by simp (disch := first | decide | (try simp only [zz, hz]) <;> omega | fail) only [go_sem, hz, gN3, hl] <;> rfl) ?_; (try simp only [resultA])
  refine post_fin ((Ow.refl _ _).set (Nat.le_refl _) _) (((g1.unpush.trans g2).ow (((Ow.refl σ.next σ2).push _).set (by omega) _)).trans g3) h3 hlr hlb ((TE.ks ⟨t2, l, rfl, hl, ho⟩ (((((Ks.refl σ2).push _).set (.inl (Nat.le_refl _)) _).trans (g3.ks (by rw [set_ne (by omega), push_ne (by omega)]; exact h2.ez))).set (.inr (by rw [gN2])) _)).lo (fun k hk => by have := hk; omega))
theorem behE_c {E : AW → Prop} (hE : Stable r E) {d : Int} {g : Nat} {fs cs : List Value} {m : SM Tr} (hf : Reads E 6 r b T d g (fs ++ cs) m) (x : ByteArray) :
    ReadsL E 6 r b T d 71 [.pointer (some ⟨r, 0, none⟩), .string x, .func (.func g) ⟨fs⟩ ⟨cs⟩] (behindS x m) := by
  intro σ s he h
  have hlr := h.lr
  have hlb := h.lb
  refine C_enter rfl Tryz.func71 rfl Tryz.ntmps71 Tryz.results71 (Nat.le_of_ble_eq_true rfl) ?_; intro A hz hA; have a0 := hA 0 _ rfl; have a1 := hA 1 _ rfl; have a2 := hA 2 _ rfl; clear hA
  repeat (first | apply s_R | apply o_n | ((first | apply o_p | (refine' o_g rfl rfl ?_ ?_; rotate_left) | apply w_c); (focus simp (disch := first | decide | (try simp only [zz, hz]) <;> omega | fail) only [go_sem, hz, a0, a1, a2] <;> rfl); with_reducible first | apply o_i | apply g_1 | apply g_2 | apply g_3 | apply g_4 | apply c_1 | apply c_2) | apply r_E | apply b_k | apply s_k | apply s_q)
  refine O_call (by simp (disch := first | decide | (try simp only [zz, hz]) <;> omega | fail) only [go_sem, hz, a0, a1, a2] <;> rfl) ?_
  refine C.mono (take_c h x) ?_
  rintro _ σ1 ⟨rfl, h1, g1⟩
  have e : behindS x m s = if (takeS x s).1 = true then ([(m (takeS x s).2).1], (m (takeS x s).2).2) else ([], (takeS x s).2) := by
    show (if (takeS x s).1 = true then (m >>= fun y => pure [y] : SM (List Tr)) else pure []) (takeS x s).2 = _
    split <;> rfl
  rw [e]
  cases ht : (takeS x s).1 with
  | false =>
    repeat (first | apply s_R | apply o_n | ((first | apply o_p | (refine' o_g rfl rfl ?_ ?_; rotate_left) | apply w_c); (focus simp (disch := first | decide | (try simp only [zz, hz]) <;> omega | fail) only [go_sem, hz, a0, a1, a2] <;> rfl); with_reducible first | apply o_i | apply g_1 | apply g_2 | apply g_3 | apply g_4 | apply c_1 | apply c_2) | apply r_E | apply b_k | apply s_k | apply s_q)
    refine W_ret ?_; (try simp only [Then, Out, Jump, JumpL]); refine ret_mk (by simp (disch := first | decide | (try simp only [zz, hz]) <;> omega | fail) only [go_sem, hz] <;> rfl) ?_; (try simp only [resultA])
    exact ⟨rd_nil _ _ _, h1, g1⟩
  | true =>
    repeat (first | apply s_R | apply o_n | ((first | apply o_p | (refine' o_g rfl rfl ?_ ?_; rotate_left) | apply w_c); (focus simp (disch := first | decide | (try simp only [zz, hz]) <;> omega | fail) only [go_sem, hz, a0, a1, a2] <;> rfl); with_reducible first | apply o_i | apply g_1 | apply g_2 | apply g_3 | apply g_4 | apply c_1 | apply c_2) | apply r_E | apply b_k | apply s_k | apply s_q)
    refine O_call (by simp (disch := first | decide | (try simp only [zz, hz]) <;> omega | fail) only [go_sem, hz, a0, a1, a2] <;> rfl) ?_
    refine C.mono (hf _ _ (hE _ _ he g1) h1) ?_
    rintro _ σ2 ⟨⟨t2, l, rfl, hl, ho⟩, h2, g2⟩
    have nx1 := g1.next
    have nx2 := g2.next
    repeat (first | apply s_R | apply o_n | ((first | apply o_p | (refine' o_g rfl rfl ?_ ?_; rotate_left) | apply w_c); (focus simp (disch := first | decide | (try simp only [zz, hz]) <;> omega | fail) only [go_sem, hz, a0, a1, a2, hl, ho] <;> rfl); with_reducible first | apply o_i | apply g_1 | apply g_2 | apply g_3 | apply g_4 | apply c_1 | apply c_2) | apply r_E | apply b_k | apply s_k | apply s_q)
    refine W_ret ?_; (try simp only [Then, Out, Jump, JumpL]); refine ret_mk (by simp (disch := first | decide | (try simp only [zz, hz]) <;> omega | fail) only [go_sem, hz] <;> rfl) ?_; (try simp only [resultA])
    refine postL_fin ((Ow.refl _ _).push _) (g1.trans g2) h2 hlr hlb (rd_lit1 push_eq (by decide) (Nat.lt_succ_self _) (by omega) (TE.ks ⟨t2, l, rfl, hl, ho⟩ ((Ks.refl σ2).push _) |>.lo (fun k hk => by have := hk; omega)))
theorem behF_c {E : AW → Prop} (hE : Stable r E) {d : Int} {g : Nat} {fs cs : List Value} {m : SM Tr} (hf : Reads E 7 r b T d g (fs ++ cs) m) (x : ByteArray) :
    ReadsL E 7 r b T d 69 [.pointer (some ⟨r, 0, none⟩), .string x, .func (.func g) ⟨fs⟩ ⟨cs⟩] (behindS x m) := by
  intro σ s he h
  have hlr := h.lr
  have hlb := h.lb
  refine C_enter rfl Tryz.func69 rfl Tryz.ntmps69 Tryz.results69 (Nat.le_of_ble_eq_true rfl) ?_; intro A hz hA; have a0 := hA 0 _ rfl; have a1 := hA 1 _ rfl; have a2 := hA 2 _ rfl; clear hA
  repeat (first | apply s_R | apply o_n | ((first | apply o_p | (refine' o_g rfl rfl ?_ ?_; rotate_left) | apply w_c); (focus simp (disch := first | decide | (try simp only [zz, hz]) <;> omega | fail) only [go_sem, hz, a0, a1, a2] <;> rfl); with_reducible first | apply o_i | apply g_1 | apply g_2 | apply g_3 | apply g_4 | apply c_1 | apply c_2) | apply r_E | apply b_k | apply s_k | apply s_q)
  refine O_call (by simp (disch := first | decide | (try simp only [zz, hz]) <;> omega | fail) only [go_sem, hz, a0, a1, a2] <;> rfl) ?_
  refine C.mono (take_c h x) ?_
  rintro _ σ1 ⟨rfl, h1, g1⟩
  have e : behindS x m s = if (takeS x s).1 = true then ([(m (takeS x s).2).1], (m (takeS x s).2).2) else ([], (takeS x s).2) := by
    show (if (takeS x s).1 = true then (m >>= fun y => pure [y] : SM (List Tr)) else pure []) (takeS x s).2 = _
    split <;> rfl
  rw [e]
  cases ht : (takeS x s).1 with
  | false =>
    repeat (first | apply s_R | apply o_n | ((first | apply o_p | (refine' o_g rfl rfl ?_ ?_; rotate_left) | apply w_c); (focus simp (disch := first | decide | (try simp only [zz, hz]) <;> omega | fail) only [go_sem, hz, a0, a1, a2] <;> rfl); with_reducible first | apply o_i | apply g_1 | apply g_2 | apply g_3 | apply g_4 | apply c_1 | apply c_2) | apply r_E | apply b_k | apply s_k | apply s_q)
    refine W_ret ?_; (try simp only [Then, Out, Jump, JumpL]); refine ret_mk (by simp (disch := first | decide | (try simp only [zz, hz]) <;> omega | fail) only [go_sem, hz] <;> rfl) ?_; (try simp only [resultA])
    exact ⟨rd_nil _ _ _, h1, g1⟩
  | true =>
    repeat (first | apply s_R | apply o_n | ((first | apply o_p | (refine' o_g rfl rfl ?_ ?_; rotate_left) | apply w_c); (focus simp (disch := first | decide | (try simp only [zz, hz]) <;> omega | fail) only [go_sem, hz, a0, a1, a2] <;> rfl); with_reducible first | apply o_i | apply g_1 | apply g_2 | apply g_3 | apply g_4 | apply c_1 | apply c_2) | apply r_E | apply b_k | apply s_k | apply s_q)
    refine O_call (by simp (disch := first | decide | (try simp only [zz, hz]) <;> omega | fail) only [go_sem, hz, a0, a1, a2] <;> rfl) ?_
    refine C.mono (hf _ _ (hE _ _ he g1) h1) ?_
    rintro _ σ2 ⟨⟨t2, l, rfl, hl, ho⟩, h2, g2⟩
    have nx1 := g1.next
    have nx2 := g2.next
    repeat (first | apply s_R | apply o_n | ((first | apply o_p | (refine' o_g rfl rfl ?_ ?_; rotate_left) | apply w_c); (focus simp (disch := first | decide | (try simp only [zz, hz]) <;> omega | fail) only [go_sem, hz, a0, a1, a2, hl, ho] <;> rfl); with_reducible first | apply o_i | apply g_1 | apply g_2 | apply g_3 | apply g_4 | apply c_1 | apply c_2) | apply r_E | apply b_k | apply s_k | apply s_q)
    refine W_ret ?_; (try simp only [Then, Out, Jump, JumpL]); refine ret_mk (by simp (disch := first | decide | (try simp only [zz, hz]) <;> omega | fail) only [go_sem, hz] <;> rfl) ?_; (try simp only [resultA])
    refine postL_fin ((Ow.refl _ _).push _) (g1.trans g2) h2 hlr hlb (rd_lit1 push_eq (by decide) (Nat.lt_succ_self _) (by omega) (TE.ks ⟨t2, l, rfl, hl, ho⟩ ((Ks.refl σ2).push _) |>.lo (fun k hk => by have := hk; omega)))
theorem listE_c {E : AW → Prop} (hE : Stable r E) {d : Int} {g : Nat} {fs cs : List Value} {m : SM Tr} (hsh : Shr m) (hf : Reads E 6 r b T d g (fs ++ cs) m) (x : ByteArray) :
    ReadsL E 6 r b T d 73 [.pointer (some ⟨r, 0, none⟩), .string x, .func (.func g) ⟨fs⟩ ⟨cs⟩] (listS x m) := by
  intro σ s he h
  have hlr := h.lr
  have hlb := h.lb
  have hfew : s.left.length ≤ 100000 := by obtain ⟨i, h1, h2⟩ := h; rw [h2, List.length_drop]; have := h1.few; omega
  refine C_enter rfl Tryz.func73 rfl Tryz.ntmps73 Tryz.results73 (Nat.le_of_ble_eq_true rfl) ?_; intro A hz hA; have a0 := hA 0 _ rfl; have a1 := hA 1 _ rfl; have a2 := hA 2 _ rfl; clear hA
  repeat (first | apply s_R | apply o_n | ((first | apply o_p | (refine' o_g rfl rfl ?_ ?_; rotate_left) | apply w_c); (focus simp (disch := first | decide | (try simp only [zz, hz]) <;> omega | fail) only [go_sem, hz, a0, a1, a2] <;> rfl); with_reducible first | apply o_i | apply g_1 | apply g_2 | apply g_3 | apply g_4 | apply c_1 | apply c_2) | apply r_E | apply b_k | apply s_k | apply s_q)
  refine O_call (by simp (disch := first | decide | (try simp only [zz, hz]) <;> omega | fail) only [go_sem, hz, a0, a1, a2] <;> rfl) ?_
  refine C.mono (hf _ _ he h) ?_
  rintro _ σ1 ⟨⟨t1, l, rfl, hl, ho⟩, h1, g1⟩
  have nx1 := g1.next
  have hs1 := hsh s
  repeat (first | apply s_R | apply o_n | ((first | apply o_p | (refine' o_g rfl rfl ?_ ?_; rotate_left) | apply w_c); (focus simp (disch := first | decide | (try simp only [zz, hz]) <;> omega | fail) only [go_sem, hz, a0, a1, a2, hl, ho] <;> rfl); with_reducible first | apply o_i | apply g_1 | apply g_2 | apply g_3 | apply g_4 | apply c_1 | apply c_2) | apply r_E | apply b_k | apply s_k | apply s_q)
  refine W_loop (WL_inv (fun k B σ2 => ∃ s2 ps vs v, s2.left.length ≤ k ∧ B.size = 20 ∧ B.get 0 = some (.pointer (some ⟨r, 0, none⟩)) ∧ B.get 1 = some (.string x) ∧ B.get 2 = some (.func (.func g) ⟨fs⟩ ⟨cs⟩) ∧ B.get 7 = some v ∧ RdS σ2 r b T d s2 ∧ Gr r σ σ2 ∧ Grow σ2 σ.next 37 6 v vs ps ∧ vs.length + s2.left.length ≤ s.left.length + 1 ∧ loopS (eaStep x m) k ps s2 = listS x m s) ?_ (m := (m s).2.left.length) ⟨(m s).2, [(m s).1], [.agg ⟨l⟩], _, Nat.le_refl _, (by simp (disch := first | decide | (try simp only [zz, hz]) <;> omega | fail) only [go_sem, hz] <;> rfl), (by simp (disch := first | decide | (try simp only [zz, hz]) <;> omega | fail) only [go_sem, hz, a0] <;> rfl), (by simp (disch := first | decide | (try simp only [zz, hz]) <;> omega | fail) only [go_sem, hz, a1] <;> rfl), (by simp (disch := first | decide | (try simp only [zz, hz]) <;> omega | fail) only [go_sem, hz, a2] <;> rfl), (by simp (disch := first | decide | (try simp only [zz, hz]) <;> omega | fail) only [go_sem, hz] <;> rfl), h1.kp ((Kp.refl σ1).push _), g1.kp ((Kp.refl σ1).push _), ?_, ?_, rfl⟩)
  · rintro k B σ2 ⟨s2, ps, vs, v, hk, hz, b0, b1, b2, b7, h2, g2, hG, hcnt, hloop⟩
    repeat (first | apply s_R | apply o_n | ((first | apply o_p | (refine' o_g rfl rfl ?_ ?_; rotate_left) | apply w_c); (focus simp (disch := first | decide | (try simp only [zz, hz]) <;> omega | fail) only [go_sem, hz, b0, b1, b2, b7] <;> rfl); with_reducible first | apply o_i | apply g_1 | apply g_2 | apply g_3 | apply g_4 | apply c_1 | apply c_2) | apply r_E | apply b_k | apply s_k | apply s_q)
    refine O_call (by simp (disch := first | decide | (try simp only [zz, hz]) <;> omega | fail) only [go_sem, hz, b0, b1, b2, b7] <;> rfl) ?_
    refine C.mono (take_c h2 x) ?_
    rintro _ σ3 ⟨rfl, h3, g3⟩
    obtain ⟨i2, hi1, hi2, _⟩ := h2.head
    have hpos : 0 < s2.left.length := by rw [hi2, List.length_drop]; have := hi1.li; omega
    have nx3 := g3.next
    have nx2 := g2.next
    obtain ⟨k, rfl⟩ : ∃ j, k = j + 1 := ⟨k - 1, by omega⟩
    have hG3 := hG.gr g3 hlr
    cases ht : (takeS x s2).1 with
    | true =>
      have hlt : (takeS x s2).2.left.length < s2.left.length := take_lt hpos ht
      rw [ea_true ht] at hloop
      repeat (first | apply s_R | apply o_n | ((first | apply o_p | (refine' o_g rfl rfl ?_ ?_; rotate_left) | apply w_c); (focus simp (disch := first | decide | (try simp only [zz, hz]) <;> omega | fail) only [go_sem, hz, b0, b1, b2, b7] <;> rfl); with_reducible first | apply o_i | apply g_1 | apply g_2 | apply g_3 | apply g_4 | apply c_1 | apply c_2) | apply r_E | apply b_k | apply s_k | apply s_q)
      refine O_call (by simp (disch := first | decide | (try simp only [zz, hz]) <;> omega | fail) only [go_sem, hz, b0, b1, b2, b7] <;> rfl) ?_
      refine C.mono (hf _ _ (hE _ _ he (g2.trans g3)) h3) ?_
      rintro _ σ4 ⟨⟨t4, l4, rfl, hl4, ho4⟩, h4, g4⟩
      have hs4 := hsh (takeS x s2).2
      obtain ⟨v', σ', hap, hG', hOw, _⟩ := grow_app us_34 io_37 rfl (by decide) hlr (by omega) hG3 g4 ⟨t4, l4, rfl, hl4, ho4⟩ (by omega) (by omega)
      repeat (first | apply s_R | apply o_n | ((first | apply o_p | (refine' o_g rfl rfl ?_ ?_; rotate_left) | apply w_c); (focus simp (disch := first | decide | (try simp only [zz, hz]) <;> omega | fail) only [go_sem, hz, b0, b1, b2, b7, hl4, ho4, hap] <;> rfl); with_reducible first | apply o_i | apply g_1 | apply g_2 | apply g_3 | apply g_4 | apply c_1 | apply c_2) | apply r_E | apply b_k | apply s_k | apply s_q)
      exact (by refine' ⟨k, Nat.lt_succ_self _, (m (takeS x s2).2).2, ps ++ [(m (takeS x s2).2).1], vs ++ [.agg ⟨l4⟩], v', by omega, ?_, ?_, ?_, ?_, ?_, h4.ow hOw hlr hlb, ((g2.trans g3).trans g4).ow hOw, hG', by rw [List.length_append, List.length_singleton]; omega, hloop⟩; any_goals simp (disch := first | decide | (try simp only [zz, hz]) <;> omega | fail) only [go_sem, hz, b0, b1, b2] <;> rfl)
    | false =>
      rw [ea_false ht] at hloop
      repeat (first | apply s_R | apply o_n | ((first | apply o_p | (refine' o_g rfl rfl ?_ ?_; rotate_left) | apply w_c); (focus simp (disch := first | decide | (try simp only [zz, hz]) <;> omega | fail) only [go_sem, hz, b0, b1, b2, b7] <;> rfl); with_reducible first | apply o_i | apply g_1 | apply g_2 | apply g_3 | apply g_4 | apply c_1 | apply c_2) | apply r_E | apply b_k | apply s_k | apply s_q)
      refine W_exit ?_; simp only [Then, Out, JumpL, reduceIte, Nat.reduceEqDiff]
      repeat (first | apply s_R | apply o_n | ((first | apply o_p | (refine' o_g rfl rfl ?_ ?_; rotate_left) | apply w_c); (focus simp (disch := first | decide | (try simp only [zz, hz]) <;> omega | fail) only [go_sem, hz, b0, b1, b2, b7] <;> rfl); with_reducible first | apply o_i | apply g_1 | apply g_2 | apply g_3 | apply g_4 | apply c_1 | apply c_2) | apply r_E | apply b_k | apply s_k | apply s_q)
      refine W_ret ?_; (try simp only [Then, Out, Jump, JumpL]); refine ret_mk (by simp (disch := first | decide | (try simp only [zz, hz]) <;> omega | fail) only [go_sem, hz] <;> rfl) ?_; (try simp only [resultA])
      rw [← hloop]
      exact ⟨hG3.rd (by decide), h3, g2.trans g3⟩
  · refine ⟨σ1.next, 2, 1, 1, rfl, by rw [push_eq]; simp [cellsL], .inl ⟨rfl, rfl, rfl⟩, by omega, Nat.lt_succ_self _, RdL.one (t1.keep (fun j _ h1 _ => push_ne (by omega)) (Nat.le_succ _) (fun j hj hlt => ⟨hj, by omega⟩)), fun u hu => by simp only [List.mem_singleton] at hu; subst hu; exact ⟨l, rfl, hl, ho⟩⟩
  · simp only [List.length_singleton]
    omega
theorem listI_c {E : AW → Prop} (hE : Stable r E) {d : Int} {g : Nat} {fs cs : List Value} {m : SM Tr} (hsh : Shr m) (hf : Reads E 7 r b T d g (fs ++ cs) m) (x : ByteArray) :
    ReadsL E 7 r b T d 67 [.pointer (some ⟨r, 0, none⟩), .string x, .func (.func g) ⟨fs⟩ ⟨cs⟩] (listS x m) := by
  intro σ s he h
  have hlr := h.lr
  have hlb := h.lb
  have hfew : s.left.length ≤ 100000 := by obtain ⟨i, h1, h2⟩ := h; rw [h2, List.length_drop]; have := h1.few; omega
  refine C_enter rfl Tryz.func67 rfl Tryz.ntmps67 Tryz.results67 (Nat.le_of_ble_eq_true rfl) ?_; intro A hz hA; have a0 := hA 0 _ rfl; have a1 := hA 1 _ rfl; have a2 := hA 2 _ rfl; clear hA
  repeat (first | apply s_R | apply o_n | ((first | apply o_p | (refine' o_g rfl rfl ?_ ?_; rotate_left) | apply w_c); (focus simp (disch := first | decide | (try simp only [zz, hz]) <;> omega | fail) only [go_sem, hz, a0, a1, a2] <;> rfl); with_reducible first | apply o_i | apply g_1 | apply g_2 | apply g_3 | apply g_4 | apply c_1 | apply c_2) | apply r_E | apply b_k | apply s_k | apply s_q)
  refine O_call (by simp (disch := first | decide | (try simp only [zz, hz]) <;> omega | fail) only [go_sem, hz, a0, a1, a2] <;> rfl) ?_
  refine C.mono (hf _ _ he h) ?_
  rintro _ σ1 ⟨⟨t1, l, rfl, hl, ho⟩, h1, g1⟩
  have nx1 := g1.next
  have hs1 := hsh s
  repeat (first | apply s_R | apply o_n | ((first | apply o_p | (refine' o_g rfl rfl ?_ ?_; rotate_left) | apply w_c); (focus simp (disch := first | decide | (try simp only [zz, hz]) <;> omega | fail) only [go_sem, hz, a0, a1, a2, hl, ho] <;> rfl); with_reducible first | apply o_i | apply g_1 | apply g_2 | apply g_3 | apply g_4 | apply c_1 | apply c_2) | apply r_E | apply b_k | apply s_k | apply s_q)
  refine W_loop (WL_inv (fun k B σ2 => ∃ s2 ps vs v, s2.left.length ≤ k ∧ B.size = 20 ∧ B.get 0 = some (.pointer (some ⟨r, 0, none⟩)) ∧ B.get 1 = some (.string x) ∧ B.get 2 = some (.func (.func g) ⟨fs⟩ ⟨cs⟩) ∧ B.get 7 = some v ∧ RdS σ2 r b T d s2 ∧ Gr r σ σ2 ∧ Grow σ2 σ.next 105 7 v vs ps ∧ vs.length + s2.left.length ≤ s.left.length + 1 ∧ loopS (eaStep x m) k ps s2 = listS x m s) ?_ (m := (m s).2.left.length) ⟨(m s).2, [(m s).1], [.agg ⟨l⟩], _, Nat.le_refl _, (by simp (disch := first | decide | (try simp only [zz, hz]) <;> omega | fail) only [go_sem, hz] <;> rfl), (by simp (disch := first | decide | (try simp only [zz, hz]) <;> omega | fail) only [go_sem, hz, a0] <;> rfl), (by simp (disch := first | decide | (try simp only [zz, hz]) <;> omega | fail) only [go_sem, hz, a1] <;> rfl), (by simp (disch := first | decide | (try simp only [zz, hz]) <;> omega | fail) only [go_sem, hz, a2] <;> rfl), (by simp (disch := first | decide | (try simp only [zz, hz]) <;> omega | fail) only [go_sem, hz] <;> rfl), h1.kp ((Kp.refl σ1).push _), g1.kp ((Kp.refl σ1).push _), ?_, ?_, rfl⟩)
  · rintro k B σ2 ⟨s2, ps, vs, v, hk, hz, b0, b1, b2, b7, h2, g2, hG, hcnt, hloop⟩
    repeat (first | apply s_R | apply o_n | ((first | apply o_p | (refine' o_g rfl rfl ?_ ?_; rotate_left) | apply w_c); (focus simp (disch := first | decide | (try simp only [zz, hz]) <;> omega | fail) only [go_sem, hz, b0, b1, b2, b7] <;> rfl); with_reducible first | apply o_i | apply g_1 | apply g_2 | apply g_3 | apply g_4 | apply c_1 | apply c_2) | apply r_E | apply b_k | apply s_k | apply s_q)
    refine O_call (by simp (disch := first | decide | (try simp only [zz, hz]) <;> omega | fail) only [go_sem, hz, b0, b1, b2, b7] <;> rfl) ?_
    refine C.mono (take_c h2 x) ?_
    rintro _ σ3 ⟨rfl, h3, g3⟩
    obtain ⟨i2, hi1, hi2, _⟩ := h2.head
    have hpos : 0 < s2.left.length := by rw [hi2, List.length_drop]; have := hi1.li; omega
    have nx3 := g3.next
    have nx2 := g2.next
    obtain ⟨k, rfl⟩ : ∃ j, k = j + 1 := ⟨k - 1, by omega⟩
    have hG3 := hG.gr g3 hlr
    cases ht : (takeS x s2).1 with
    | true =>
      have hlt : (takeS x s2).2.left.length < s2.left.length := take_lt hpos ht
      rw [ea_true ht] at hloop
      repeat (first | apply s_R | apply o_n | ((first | apply o_p | (refine' o_g rfl rfl ?_ ?_; rotate_left) | apply w_c); (focus simp (disch := first | decide | (try simp only [zz, hz]) <;> omega | fail) only [go_sem, hz, b0, b1, b2, b7] <;> rfl); with_reducible first | apply o_i | apply g_1 | apply g_2 | apply g_3 | apply g_4 | apply c_1 | apply c_2) | apply r_E | apply b_k | apply s_k | apply s_q)
      refine O_call (by simp (disch := first | decide | (try simp only [zz, hz]) <;> omega | fail) only [go_sem, hz, b0, b1, b2, b7] <;> rfl) ?_
      refine C.mono (hf _ _ (hE _ _ he (g2.trans g3)) h3) ?_
      rintro _ σ4 ⟨⟨t4, l4, rfl, hl4, ho4⟩, h4, g4⟩
      have hs4 := hsh (takeS x s2).2
      obtain ⟨v', σ', hap, hG', hOw, _⟩ := grow_app us_40 io_105 rfl (by decide) hlr (by omega) hG3 g4 ⟨t4, l4, rfl, hl4, ho4⟩ (by omega) (by omega)
      repeat (first | apply s_R | apply o_n | ((first | apply o_p | (refine' o_g rfl rfl ?_ ?_; rotate_left) | apply w_c); (focus simp (disch := first | decide | (try simp only [zz, hz]) <;> omega | fail) only [go_sem, hz, b0, b1, b2, b7, hl4, ho4, hap] <;> rfl); with_reducible first | apply o_i | apply g_1 | apply g_2 | apply g_3 | apply g_4 | apply c_1 | apply c_2) | apply r_E | apply b_k | apply s_k | apply s_q)
      exact (by refine' ⟨k, Nat.lt_succ_self _, (m (takeS x s2).2).2, ps ++ [(m (takeS x s2).2).1], vs ++ [.agg ⟨l4⟩], v', by omega, ?_, ?_, ?_, ?_, ?_, h4.ow hOw hlr hlb, ((g2.trans g3).trans g4).ow hOw, hG', by rw [List.length_append, List.length_singleton]; omega, hloop⟩; any_goals simp (disch := first | decide | (try simp only [zz, hz]) <;> omega | fail) only [go_sem, hz, b0, b1, b2] <;> rfl)
    | false =>
      rw [ea_false ht] at hloop
      repeat (first | apply s_R | apply o_n | ((first | apply o_p | (refine' o_g rfl rfl ?_ ?_; rotate_left) | apply w_c); (focus simp (disch := first | decide | (try simp only [zz, hz]) <;> omega | fail) only [go_sem, hz, b0, b1, b2, b7] <;> rfl); with_reducible first | apply o_i | apply g_1 | apply g_2 | apply g_3 | apply g_4 | apply c_1 | apply c_2) | apply r_E | apply b_k | apply s_k | apply s_q)
      refine W_exit ?_; simp only [Then, Out, JumpL, reduceIte, Nat.reduceEqDiff]
      repeat (first | apply s_R | apply o_n | ((first | apply o_p | (refine' o_g rfl rfl ?_ ?_; rotate_left) | apply w_c); (focus simp (disch := first | decide | (try simp only [zz, hz]) <;> omega | fail) only [go_sem, hz, b0, b1, b2, b7] <;> rfl); with_reducible first | apply o_i | apply g_1 | apply g_2 | apply g_3 | apply g_4 | apply c_1 | apply c_2) | apply r_E | apply b_k | apply s_k | apply s_q)
      refine W_ret ?_; (try simp only [Then, Out, Jump, JumpL]); refine ret_mk (by simp (disch := first | decide | (try simp only [zz, hz]) <;> omega | fail) only [go_sem, hz] <;> rfl) ?_; (try simp only [resultA])
      rw [← hloop]
      exact ⟨hG3.rd (by decide), h3, g2.trans g3⟩
  · refine ⟨σ1.next, 2, 1, 1, rfl, by rw [push_eq]; simp [cellsL], .inl ⟨rfl, rfl, rfl⟩, by omega, Nat.lt_succ_self _, RdL.one (t1.keep (fun j _ h1 _ => push_ne (by omega)) (Nat.le_succ _) (fun j hj hlt => ⟨hj, by omega⟩)), fun u hu => by simp only [List.mem_singleton] at hu; subst hu; exact ⟨l, rfl, hl, ho⟩⟩
  · simp only [List.length_singleton]
    omega
theorem listK_c {E : AW → Prop} (hE : Stable r E) {d : Int} {g : Nat} {fs cs : List Value} {m : SM Tr} (hsh : Shr m) (hf : Reads E 7 r b T d g (fs ++ cs) m) (x : ByteArray) :
    ReadsL E 7 r b T d 74 [.pointer (some ⟨r, 0, none⟩), .string x, .func (.func g) ⟨fs⟩ ⟨cs⟩] (listS x m) := by
  intro σ s he h
  have hlr := h.lr
  have hlb := h.lb
  have hfew : s.left.length ≤ 100000 := by obtain ⟨i, h1, h2⟩ := h; rw [h2, List.length_drop]; have := h1.few; omega
  refine C_enter rfl Tryz.func74 rfl Tryz.ntmps74 Tryz.results74 (Nat.le_of_ble_eq_true rfl) ?_; intro A hz hA; have a0 := hA 0 _ rfl; have a1 := hA 1 _ rfl; have a2 := hA 2 _ rfl; clear hA
  repeat (first | apply s_R | apply o_n | ((first | apply o_p | (refine' o_g rfl rfl ?_ ?_; rotate_left) | apply w_c); (focus simp (disch := first | decide | (try simp only [zz, hz]) <;> omega | fail) only [go_sem, hz, a0, a1, a2] <;> rfl); with_reducible first | apply o_i | apply g_1 | apply g_2 | apply g_3 | apply g_4 | apply c_1 | apply c_2) | apply r_E | apply b_k | apply s_k | apply s_q)
  refine O_call (by simp (disch := first | decide | (try simp only [zz, hz]) <;> omega | fail) only [go_sem, hz, a0, a1, a2] <;> rfl) ?_
  refine C.mono (hf _ _ he h) ?_
  rintro _ σ1 ⟨⟨t1, l, rfl, hl, ho⟩, h1, g1⟩
  have nx1 := g1.next
  have hs1 := hsh s
  repeat (first | apply s_R | apply o_n | ((first | apply o_p | (refine' o_g rfl rfl ?_ ?_; rotate_left) | apply w_c); (focus simp (disch := first | decide | (try simp only [zz, hz]) <;> omega | fail) only [go_sem, hz, a0, a1, a2, hl, ho] <;> rfl); with_reducible first | apply o_i | apply g_1 | apply g_2 | apply g_3 | apply g_4 | apply c_1 | apply c_2) | apply r_E | apply b_k | apply s_k | apply s_q)
  refine W_loop (WL_inv (fun k B σ2 => ∃ s2 ps vs v, s2.left.length ≤ k ∧ B.size = 20 ∧ B.get 0 = some (.pointer (some ⟨r, 0, none⟩)) ∧ B.get 1 = some (.string x) ∧ B.get 2 = some (.func (.func g) ⟨fs⟩ ⟨cs⟩) ∧ B.get 7 = some v ∧ RdS σ2 r b T d s2 ∧ Gr r σ σ2 ∧ Grow σ2 σ.next 107 7 v vs ps ∧ vs.length + s2.left.length ≤ s.left.length + 1 ∧ loopS (eaStep x m) k ps s2 = listS x m s) ?_ (m := (m s).2.left.length) ⟨(m s).2, [(m s).1], [.agg ⟨l⟩], _, Nat.le_refl _, (by simp (disch := first | decide | (try simp only [zz, hz]) <;> omega | fail) only [go_sem, hz] <;> rfl), (by simp (disch := first | decide | (try simp only [zz, hz]) <;> omega | fail) only [go_sem, hz, a0] <;> rfl), (by simp (disch := first | decide | (try simp only [zz, hz]) <;> omega | fail) only [go_sem, hz, a1] <;> rfl), (by simp (disch := first | decide | (try simp only [zz, hz]) <;> omega | fail) only [go_sem, hz, a2] <;> rfl), (by simp (disch := first | decide | (try simp only [zz, hz]) <;> omega | fail) only [go_sem, hz] <;> rfl), h1.kp ((Kp.refl σ1).push _), g1.kp ((Kp.refl σ1).push _), ?_, ?_, rfl⟩)
  · rintro k B σ2 ⟨s2, ps, vs, v, hk, hz, b0, b1, b2, b7, h2, g2, hG, hcnt, hloop⟩
    repeat (first | apply s_R | apply o_n | ((first | apply o_p | (refine' o_g rfl rfl ?_ ?_; rotate_left) | apply w_c); (focus simp (disch := first | decide | (try simp only [zz, hz]) <;> omega | fail) only [go_sem, hz, b0, b1, b2, b7] <;> rfl); with_reducible first | apply o_i | apply g_1 | apply g_2 | apply g_3 | apply g_4 | apply c_1 | apply c_2) | apply r_E | apply b_k | apply s_k | apply s_q)
    refine O_call (by simp (disch := first | decide | (try simp only [zz, hz]) <;> omega | fail) only [go_sem, hz, b0, b1, b2, b7] <;> rfl) ?_
    refine C.mono (take_c h2 x) ?_
    rintro _ σ3 ⟨rfl, h3, g3⟩
    obtain ⟨i2, hi1, hi2, _⟩ := h2.head
    have hpos : 0 < s2.left.length := by rw [hi2, List.length_drop]; have := hi1.li; omega
    have nx3 := g3.next
    have nx2 := g2.next
    obtain ⟨k, rfl⟩ : ∃ j, k = j + 1 := ⟨k - 1, by omega⟩
    have hG3 := hG.gr g3 hlr
    cases ht : (takeS x s2).1 with
    | true =>
      have hlt : (takeS x s2).2.left.length < s2.left.length := take_lt hpos ht
      rw [ea_true ht] at hloop
      repeat (first | apply s_R | apply o_n | ((first | apply o_p | (refine' o_g rfl rfl ?_ ?_; rotate_left) | apply w_c); (focus simp (disch := first | decide | (try simp only [zz, hz]) <;> omega | fail) only [go_sem, hz, b0, b1, b2, b7] <;> rfl); with_reducible first | apply o_i | apply g_1 | apply g_2 | apply g_3 | apply g_4 | apply c_1 | apply c_2) | apply r_E | apply b_k | apply s_k | apply s_q)
      refine O_call (by simp (disch := first | decide | (try simp only [zz, hz]) <;> omega | fail) only [go_sem, hz, b0, b1, b2, b7] <;> rfl) ?_
      refine C.mono (hf _ _ (hE _ _ he (g2.trans g3)) h3) ?_
      rintro _ σ4 ⟨⟨t4, l4, rfl, hl4, ho4⟩, h4, g4⟩
      have hs4 := hsh (takeS x s2).2
      obtain ⟨v', σ', hap, hG', hOw, _⟩ := grow_app us_42 io_107 rfl (by decide) hlr (by omega) hG3 g4 ⟨t4, l4, rfl, hl4, ho4⟩ (by omega) (by omega)
      repeat (first | apply s_R | apply o_n | ((first | apply o_p | (refine' o_g rfl rfl ?_ ?_; rotate_left) | apply w_c); (focus simp (disch := first | decide | (try simp only [zz, hz]) <;> omega | fail) only [go_sem, hz, b0, b1, b2, b7, hl4, ho4, hap] <;> rfl); with_reducible first | apply o_i | apply g_1 | apply g_2 | apply g_3 | apply g_4 | apply c_1 | apply c_2) | apply r_E | apply b_k | apply s_k | apply s_q)
      exact (by refine' ⟨k, Nat.lt_succ_self _, (m (takeS x s2).2).2, ps ++ [(m (takeS x s2).2).1], vs ++ [.agg ⟨l4⟩], v', by omega, ?_, ?_, ?_, ?_, ?_, h4.ow hOw hlr hlb, ((g2.trans g3).trans g4).ow hOw, hG', by rw [List.length_append, List.length_singleton]; omega, hloop⟩; any_goals simp (disch := first | decide | (try simp only [zz, hz]) <;> omega | fail) only [go_sem, hz, b0, b1, b2] <;> rfl)
    | false =>
      rw [ea_false ht] at hloop
      repeat (first | apply s_R | apply o_n | ((first | apply o_p | (refine' o_g rfl rfl ?_ ?_; rotate_left) | apply w_c); (focus simp (disch := first | decide | (try simp only [zz, hz]) <;> omega | fail) only [go_sem, hz, b0, b1, b2, b7] <;> rfl); with_reducible first | apply o_i | apply g_1 | apply g_2 | apply g_3 | apply g_4 | apply c_1 | apply c_2) | apply r_E | apply b_k | apply s_k | apply s_q)
      refine W_exit ?_; simp only [Then, Out, JumpL, reduceIte, Nat.reduceEqDiff]
      repeat (first | apply s_R | apply o_n | ((first | apply o_p | (refine' o_g rfl rfl ?_ ?_; rotate_left) | apply w_c); (focus simp (disch := first | decide | (try simp only [zz, hz]) <;> omega | fail) only [go_sem, hz, b0, b1, b2, b7] <;> rfl); with_reducible first | apply o_i | apply g_1 | apply g_2 | apply g_3 | apply g_4 | apply c_1 | apply c_2) | apply r_E | apply b_k | apply s_k | apply s_q)
      refine W_ret ?_; (try simp only [Then, Out, Jump, JumpL]); refine ret_mk (by simp (disch := first | decide | (try simp only [zz, hz]) <;> omega | fail) only [go_sem, hz] <;> rfl) ?_; (try simp only [resultA])
      rw [← hloop]
      exact ⟨hG3.rd (by decide), h3, g2.trans g3⟩
  · refine ⟨σ1.next, 2, 1, 1, rfl, by rw [push_eq]; simp [cellsL], .inl ⟨rfl, rfl, rfl⟩, by omega, Nat.lt_succ_self _, RdL.one (t1.keep (fun j _ h1 _ => push_ne (by omega)) (Nat.le_succ _) (fun j hj hlt => ⟨hj, by omega⟩)), fun u hu => by simp only [List.mem_singleton] at hu; subst hu; exact ⟨l, rfl, hl, ho⟩⟩
  · simp only [List.length_singleton]
    omega
theorem inbLE_c {E : AW → Prop} (hE : Stable r E) {d : Int} {g : Nat} {fs cs : List Value} {m : SM (List Tr)} (hf : ReadsL E 6 r b T d g (fs ++ cs) m) :
    ReadsL E 6 r b T d 110 [.pointer (some ⟨r, 0, none⟩), .func (.func g) ⟨fs⟩ ⟨cs⟩] (inBracketsS m) := by
  intro σ s he h
  have hlr := h.lr
  have hlb := h.lb
  refine C_enter rfl Tryz.func110 rfl Tryz.ntmps110 Tryz.results110 (Nat.le_of_ble_eq_true rfl) ?_; intro A hz hA; have a0 := hA 0 _ rfl; have a1 := hA 1 _ rfl; clear hA
  repeat (first | apply s_R | apply o_n | ((first | apply o_p | (refine' o_g rfl rfl ?_ ?_; rotate_left) | apply w_c); (focus simp (disch := first | decide | (try simp only [zz, hz]) <;> omega | fail) only [go_sem, hz, a0, a1] <;> rfl); with_reducible first | apply o_i | apply g_1 | apply g_2 | apply g_3 | apply g_4 | apply c_1 | apply c_2) | apply r_E | apply b_k | apply s_k | apply s_q)
  refine O_call (by simp (disch := first | decide | (try simp only [zz, hz]) <;> omega | fail) only [go_sem, hz, a0, a1] <;> rfl) ?_
  refine C.mono (want_c h m_lp) ?_
  rintro _ σ1 ⟨h1, g1⟩
  have nx1 := g1.next
  repeat (first | apply s_R | apply o_n | ((first | apply o_p | (refine' o_g rfl rfl ?_ ?_; rotate_left) | apply w_c); (focus simp (disch := first | decide | (try simp only [zz, hz]) <;> omega | fail) only [go_sem, hz, a0, a1] <;> rfl); with_reducible first | apply o_i | apply g_1 | apply g_2 | apply g_3 | apply g_4 | apply c_1 | apply c_2) | apply r_E | apply b_k | apply s_k | apply s_q)
  refine O_call (by simp (disch := first | decide | (try simp only [zz, hz]) <;> omega | fail) only [go_sem, hz, a0, a1] <;> rfl) ?_
  refine C.mono (hf _ _ (hE _ _ he g1) h1) ?_
  rintro v2 σ2 ⟨t2, h2, g2⟩
  have nx2 := g2.next
  repeat (first | apply s_R | apply o_n | ((first | apply o_p | (refine' o_g rfl rfl ?_ ?_; rotate_left) | apply w_c); (focus simp (disch := first | decide | (try simp only [zz, hz]) <;> omega | fail) only [go_sem, hz, a0, a1] <;> rfl); with_reducible first | apply o_i | apply g_1 | apply g_2 | apply g_3 | apply g_4 | apply c_1 | apply c_2) | apply r_E | apply b_k | apply s_k | apply s_q)
  refine O_call (by simp (disch := first | decide | (try simp only [zz, hz]) <;> omega | fail) only [go_sem, hz, a0, a1] <;> rfl) ?_
  refine C.mono (want_c h2 m_rp) ?_
  rintro _ σ3 ⟨h3, g3⟩
  repeat (first | apply s_R | apply o_n | ((first | apply o_p | (refine' o_g rfl rfl ?_ ?_; rotate_left) | apply w_c); (focus simp (disch := first | decide | (try simp only [zz, hz]) <;> omega | fail) only [go_sem, hz, a0, a1] <;> rfl); with_reducible first | apply o_i | apply g_1 | apply g_2 | apply g_3 | apply g_4 | apply c_1 | apply c_2) | apply r_E | apply b_k | apply s_k | apply s_q)
  refine W_ret ?_; (try simp only [Then, Out, Jump, JumpL]); refine ret_mk (by simp (disch := first | decide | (try simp only [zz, hz]) <;> omega | fail) only [go_sem, hz] <;> rfl) ?_; (try simp only [resultA])
  exact ⟨(t2.ks (g3.ks h2.ez)).keep (fun _ _ _ _ => rfl) (Nat.le_refl _) (fun k hk _ => by have := hk; omega), h3, (g1.trans g2).trans g3⟩
end
end Go.Proofs.YtckidlbmoalomaaGreatDoor


namespace Go.Proofs.YtckidlbmoalomaaGreatDoor
open Go.RowKit
set_option maxRecDepth 10000
set_option linter.unusedSimpArgs false
set_option linter.unusedVariables false

section
variable {r b : Nat} {T : List Tk}
theorem stable_true : Stable r (fun _ => True) := fun _ _ _ _ => trivial
theorem binary_c {σ : AW} {lo : Nat} (hlo : lo ≤ σ.next) {l m p q : Value} {x : ByteArray} (h1 : TE 6 σ (fun k => lo ≤ k) l p) (h2 : TE 6 σ (fun k => lo ≤ k) m q) :
    C Tryz.prog 61 [l, .string x, m] σ fun v σ' => TE 6 σ' (fun k => lo ≤ k) v (binS p x q) ∧ Kp σ σ' := by
  obtain ⟨t1, l, rfl, hl, ho⟩ := h1
  obtain ⟨t2, m, rfl, hm, hn⟩ := h2
  refine C_enter rfl Tryz.func61 rfl Tryz.ntmps61 Tryz.results61 (Nat.le_of_ble_eq_true rfl) ?_; intro A hz hA; have a0 := hA 0 _ rfl; have a1 := hA 1 _ rfl; have a2 := hA 2 _ rfl; clear hA
  repeat (first | apply s_R | apply o_n | ((first | apply o_p | (refine' o_g rfl rfl ?_ ?_; rotate_left) | apply w_c); (focus simp (disch := first | decide | (try simp only [zz, hz]) <;> omega | fail) only [go_sem, hz, a0, a1, a2, hl, ho, hm, hn] <;> rfl); with_reducible first | apply o_i | apply g_1 | apply g_2 | apply g_3 | apply g_4 | apply c_1 | apply c_2) | apply r_E | apply b_k | apply s_k | apply s_q)
  refine W_ret ?_; (try simp only [Then, Out, Jump, JumpL]); refine ret_mk (by simp (disch := first | decide | (try simp only [zz, hz]) <;> omega | fail) only [go_sem, hz] <;> rfl) ?_; (try simp only [resultA])
  refine ⟨te_mkE (rd_lit2 (e := 37) (z := 1) (by simp (disch := first | decide | (try simp only [zz, hz]) <;> omega | fail) only [go_sem, hz] <;> rfl) (by decide) (by first | omega | (simp only [push_next, set_next]; first | done | omega)) (by first | omega | (simp only [push_next, set_next]; first | done | omega)) (TE.ks ⟨t1, l, rfl, hl, ho⟩ (((((Ks.refl σ).push _).push _).push _).push _ |>.set (.inl (by first | omega | (simp only [push_next, set_next]; first | done | omega))) _)) (TE.ks ⟨t2, m, rfl, hm, hn⟩ (((((Ks.refl σ).push _).push _).push _).push _ |>.set (.inl (by first | omega | (simp only [push_next, set_next]; first | done | omega))) _))) (rd_nil _ _ _), ((((Kp.refl σ).push _).push _).push _).push _ |>.set (by first | omega | (simp only [push_next, set_next]; first | done | omega)) _⟩
theorem operands1_c {E : AW → Prop} {d : Int} {g : Nat} {fs cs : List Value} {m : SM Tr} (hf : Reads E 6 r b T d g (fs ++ cs) m) (k : Nat) (σ : AW) (s : Sy) (lo : Nat) (v p : Value) (x : ByteArray) (he : E σ ∧ σ.get k = ⟨1, 60, 0, [.func (.func g) ⟨fs⟩ ⟨cs⟩]⟩ ∧ k < σ.next ∧ k ≠ r) (hE : Stable r E) (h : RdS σ r b T d s) (hlo : lo ≤ σ.next) (hv : TE 6 σ (fun k => lo ≤ k) v p) :
    C Tryz.prog 60 ([] ++ [v, .string x] ++ [.pointer (some ⟨k, 0, none⟩)]) σ fun v' σ' => TE 6 σ' (fun k => lo ≤ k) v' ((do let y ← m; pure (binS p x y) : SM Tr) s).1 ∧ RdS σ' r b T d ((do let y ← m; pure (binS p x y) : SM Tr) s).2 ∧ Gr r σ σ' := by
  obtain ⟨he, gk, hk, hkr⟩ := he
  have hlr := h.lr
  have hlb := h.lb
  obtain ⟨t1, l, rfl, hl, ho⟩ := hv
  refine C_enter rfl Tryz.func60 rfl Tryz.ntmps60 Tryz.results60 (Nat.le_of_ble_eq_true rfl) ?_; intro A hz hA; have a0 := hA 0 _ rfl; have a1 := hA 1 _ rfl; have a2 := hA 2 _ rfl; clear hA
  repeat (first | apply s_R | apply o_n | ((first | apply o_p | (refine' o_g rfl rfl ?_ ?_; rotate_left) | apply w_c); (focus simp (disch := first | decide | (try simp only [zz, hz]) <;> omega | fail) only [go_sem, hz, a0, a1, a2, gk, hl, ho] <;> rfl); with_reducible first | apply o_i | apply g_1 | apply g_2 | apply g_3 | apply g_4 | apply c_1 | apply c_2) | apply r_E | apply b_k | apply s_k | apply s_q)
  refine W_regDE mixed (by kernel_rfl) (by kernel_rfl) ?_
  repeat (apply v_x; (focus simp (disch := first | decide | (try simp only [zz, hz]) <;> omega | fail) only [go_sem, hz, a0, a1, a2, gk, hl, ho] <;> rfl); first | refine vX_n ?_ | refine vX_l ?_ | refine vX_e ?_)
  refine V_call (by simp (disch := first | decide | (try simp only [zz, hz]) <;> omega | fail) only [go_sem, hz, a0, a1, a2, gk, hl, ho] <;> rfl) ?_
  have g0 : ∀ B1 B2 : Blk, Gr r σ ((σ.push B1).push B2) := fun _ _ => ((Gr.refl r σ).push _).push _
  refine C.mono (hf _ _ (hE _ _ he (g0 _ _)) (h.kp (((Kp.refl σ).push _).push _))) ?_
  rintro _ σ2 ⟨⟨t2, l2, rfl, hl2, ho2⟩, h2, g2⟩
  have nx2 := g2.next
  simp only [push_next] at nx2
  have gN := (g2.get σ.next (by first | omega | (simp only [push_next, set_next]; first | done | omega)) (by omega)).trans ((push_ne (by first | omega | (simp only [push_next, set_next]; first | done | omega))).trans push_eq)
  have gM := (g2.get (σ.next + 1) (by first | omega | (simp only [push_next, set_next]; first | done | omega)) (by omega)).trans push_eq
  have t1' := TE.ks ⟨t1, l, rfl, hl, ho⟩ ((((Ks.refl σ).push _).push _).trans (g2.ks (by rw [push_ne (by first | omega | (simp only [push_next, set_next]; first | done | omega)), push_ne (by omega)]; exact h.ez)))
  refine V_call (by simp (disch := first | decide | (try simp only [zz, hz]) <;> omega | fail) only [go_sem, hz, a0, a1, a2, gk, hl, ho] <;> rfl) ?_
  refine C.mono (binary_c (lo := lo) (by omega) t1' (TE.lo ⟨t2, l2, rfl, hl2, ho2⟩ (fun j hj => by have := hj; simp only [push_next] at this; omega))) ?_
  rintro _ σ3 ⟨⟨t3, l3, rfl, hl3, ho3⟩, k3⟩
  have gN3 := (k3.get σ.next (by omega)).trans gN
  have gM3 := (k3.get (σ.next + 1) (by omega)).trans gM
  repeat (apply v_x; (focus simp (disch := first | decide | (try simp only [zz, hz]) <;> omega | fail) only [go_sem, hz, a0, a1, a2, gk, hl, ho, hl3, ho3, gM3] <;> rfl); first | refine vX_n ?_ | refine vX_l ?_ | refine vX_e ?_)
  refine V_nil ?_; refine And.intro (owes_by (L := [(0, 0), (0, 4), (2, 0)]) ?_ ?_) ?_; rotate_left 2; (try simp only [Then, Out, JumpL]); rotate_right 2; focus (kernel_rfl)
  · (repeat (refine owe_cons (Owed_op rfl rfl rfl rfl rfl (by simp (disch := first | decide | (try simp only [zz, hz]) <;> omega | fail) only [go_sem, hz, a0, a1, a2, gk, hl, ho, hl3, ho3, gN] <;> rfl)) ?_)); exact owe_nil
  refine W_ret ?_; (try simp only [Then, Out, Jump, JumpL]); refine ret_mk (by simp (disch := first | decide | (try simp only [zz, hz]) <;> omega | fail) only [go_sem, hz, hl3] <;> rfl) ?_; (try simp only [resultA])
  exact ⟨TE.ks ⟨t3, l3, rfl, hl3, ho3⟩ ((Ks.refl σ3).set (.inr (by rw [gM3])) _), (h2.kp k3).ow ((Ow.refl σ.next σ3).set (by omega) _) hlr hlb, (((g0 _ _).trans g2).kp k3).ow ((Ow.refl σ.next σ3).set (by omega) _)⟩
theorem operands_c {E : AW → Prop} (hE : Stable r E) {d : Int} {g : Nat} {fs cs : List Value} {m : SM Tr} (hsh : Shr m) (hf : Reads E 6 r b T d g (fs ++ cs) m) {ws : List ByteArray} (hw0 : ws.length ≤ 1000) {σ : AW} {s : Sy} (he : E σ) (h : RdS σ r b T d s) {w c e z : Nat} (hw : σ.get w = ⟨1, e, z, ws.map Value.string⟩) (hwr : w ≠ r) (hwn : w < σ.next) :
    C Tryz.prog 34 [.pointer (some ⟨r, 0, none⟩), .func (.func g) ⟨fs⟩ ⟨cs⟩, .slice (some ⟨w, 0, none⟩) ws.length c] σ (Post 6 r b T d σ (operandsS m ws s)) := by
  have hlr := h.lr
  have hlb := h.lb
  refine C_enter rfl Tryz.func34 rfl Tryz.ntmps34 Tryz.results34 (Nat.le_of_ble_eq_true rfl) ?_; intro A hz hA; have a0 := hA 0 _ rfl; have a1 := hA 1 _ rfl; have a2 := hA 2 _ rfl; clear hA
  repeat (first | apply s_R | apply o_n | ((first | apply o_p | (refine' o_g rfl rfl ?_ ?_; rotate_left) | apply w_c); (focus simp (disch := first | decide | (try simp only [zz, hz]) <;> omega | fail) only [go_sem, hz, a0, a1, a2] <;> rfl); with_reducible first | apply o_i | apply g_1 | apply g_2 | apply g_3 | apply g_4 | apply c_1 | apply c_2) | apply r_E | apply b_k | apply s_k | apply s_q)
  refine O_call (by simp (disch := first | decide | (try simp only [zz, hz]) <;> omega | fail) only [go_sem, hz, a0, a1, a2] <;> rfl) ?_
  have g0 : ∀ B1 B2 : Blk, Gr r σ ((σ.push B1).push B2) := fun _ _ => ((Gr.refl r σ).push _).push _
  refine C.mono (hf _ _ (hE _ _ he (g0 _ _)) (h.kp (((Kp.refl σ).push _).push _))) ?_
  rintro _ σ2 ⟨⟨t2, l2, rfl, hl2, ho2⟩, h2, g2⟩
  have nx2 := g2.next
  simp only [push_next] at nx2
  have gN := (g2.get σ.next (by first | omega | (simp only [push_next, set_next]; first | done | omega)) (by omega)).trans ((push_ne (by first | omega | (simp only [push_next, set_next]; first | done | omega))).trans push_eq)
  have gM := (g2.get (σ.next + 1) (by first | omega | (simp only [push_next, set_next]; first | done | omega)) (by omega)).trans push_eq
  have hw2 := ((g0 _ _).trans g2).get w hwn hwr |>.trans hw
  repeat (first | apply s_R | apply o_n | ((first | apply o_p | (refine' o_g rfl rfl ?_ ?_; rotate_left) | apply w_c); (focus simp (disch := first | decide | (try simp only [zz, hz]) <;> omega | fail) only [go_sem, hz, a0, a1, a2, hl2, ho2] <;> rfl); with_reducible first | apply o_i | apply g_1 | apply g_2 | apply g_3 | apply g_4 | apply c_1 | apply c_2) | apply r_E | apply b_k | apply s_k | apply s_q)
  refine O_call (by simp (disch := first | decide | (try simp only [zz, hz]) <;> omega | fail) only [go_sem, hz, a0, a1, a2, hl2, ho2] <;> rfl) ?_
  refine C.mono (fromE_c (fs := []) (cs := [.pointer (some ⟨σ.next, 0, none⟩)]) (E := fun τ => E τ ∧ τ.get σ.next = ⟨1, 60, 0, [.func (.func g) ⟨fs⟩ ⟨cs⟩]⟩ ∧ σ.next < τ.next ∧ σ.next ≠ r) (fun τ τ' he g => ⟨hE _ _ he.1 g, (g.get _ he.2.2.1 he.2.2.2).trans he.2.1, Nat.lt_of_lt_of_le he.2.2.1 g.next, he.2.2.2⟩) (more := fun p x => do let y ← m; pure (binS p x y)) hw0 (fun _ _ => hsh.bind fun _ => .pure _) (fun τ s' lo v p x he h hlo hv _ => operands1_c hf _ τ s' lo v p x he hE h hlo hv) ⟨hE _ _ he ((g0 _ _).trans g2), gN, by omega, by omega⟩ h2 (lo := σ.next) (by omega) (TE.lo ⟨t2, l2, rfl, hl2, ho2⟩ (fun k hk => by have := hk; simp only [push_next] at this; omega)) hw2 hwr (by omega)) ?_
  rintro _ σ3 ⟨⟨t3, l3, rfl, hl3, ho3⟩, h3, g3⟩
  have gM3 := (g3.get (σ.next + 1) (by omega) (by omega)).trans gM
  repeat (first | apply s_R | apply o_n | ((first | apply o_p | (refine' o_g rfl rfl ?_ ?_; rotate_left) | apply w_c); (focus simp (disch := first | decide | (try simp only [zz, hz]) <;> omega | fail) only [go_sem, hz, a0, a1, a2, hl3, ho3, gM3] <;> rfl); with_reducible first | apply o_i | apply g_1 | apply g_2 | apply g_3 | apply g_4 | apply c_1 | apply c_2) | apply r_E | apply b_k | apply s_k | apply s_q)
  refine W_ret ?_; (try simp only [Then, Out, Jump, JumpL]); refine ret_mk (by simp (disch := first | decide | (try simp only [zz, hz]) <;> omega | fail) only [go_sem, hz, hl3] <;> rfl) ?_; (try simp only [resultA])
  exact post_fin ((Ow.refl _ _).set (by omega) _) (((g0 _ _).trans g2).trans g3) h3 hlr hlb (TE.ks ⟨t3, l3, rfl, hl3, ho3⟩ ((Ks.refl σ3).set (.inr (by rw [gM3])) _))
theorem or_c {d : Int} {m : SM Tr} (hsh : Shr m) (hf : Reads (fun _ => True) 6 r b T d 35 [.pointer (some ⟨r, 0, none⟩)] m) : Reads (fun _ => True) 6 r b T d 18 [.pointer (some ⟨r, 0, none⟩)] (operandsS m [w_or]) := by
  intro σ s he h
  have hlr := h.lr
  have hlb := h.lb
  refine C_enter rfl Tryz.func18 rfl Tryz.ntmps18 Tryz.results18 (Nat.le_of_ble_eq_true rfl) ?_; intro A hz hA; have a0 := hA 0 _ rfl; clear hA
  repeat (first | apply s_R | apply o_n | ((first | apply o_p | (refine' o_g rfl rfl ?_ ?_; rotate_left) | apply w_c); (focus simp (disch := first | decide | (try simp only [zz, hz]) <;> omega | fail) only [go_sem, hz, a0] <;> rfl); with_reducible first | apply o_i | apply g_1 | apply g_2 | apply g_3 | apply g_4 | apply c_1 | apply c_2) | apply r_E | apply b_k | apply s_k | apply s_q)
  refine O_call (by simp (disch := first | decide | (try simp only [zz, hz]) <;> omega | fail) only [go_sem, hz, a0] <;> rfl) ?_
  refine C.mono (operands_c (fs := [.pointer (some ⟨r, 0, none⟩)]) (cs := []) stable_true hsh hf (ws := [w_or]) (Nat.le_of_ble_eq_true rfl) trivial (h.kp (((Kp.refl σ).push _).push _)) (e := 9) (z := 1) (by simp (disch := first | decide | (try simp only [zz, hz]) <;> omega | fail) only [go_sem, hz] <;> rfl) (by first | omega | (simp only [push_next, set_next]; first | done | omega)) (by first | omega | (simp only [push_next, set_next]; first | done | omega))) ?_
  rintro _ σ2 ⟨⟨t2, l, rfl, hl, ho⟩, h2, g2⟩
  have nx2 := g2.next
  simp only [push_next] at nx2
  have gN := (g2.get σ.next (by first | omega | (simp only [push_next, set_next]; first | done | omega)) (by omega)).trans ((push_ne (by first | omega | (simp only [push_next, set_next]; first | done | omega))).trans push_eq)
  repeat (first | apply s_R | apply o_n | ((first | apply o_p | (refine' o_g rfl rfl ?_ ?_; rotate_left) | apply w_c); (focus simp (disch := first | decide | (try simp only [zz, hz]) <;> omega | fail) only [go_sem, hz, a0, hl, ho, gN] <;> rfl); with_reducible first | apply o_i | apply g_1 | apply g_2 | apply g_3 | apply g_4 | apply c_1 | apply c_2) | apply r_E | apply b_k | apply s_k | apply s_q)
  refine W_ret ?_; (try simp only [Then, Out, Jump, JumpL]); refine ret_mk (by simp (disch := first | decide | (try simp only [zz, hz]) <;> omega | fail) only [go_sem, hz, hl] <;> rfl) ?_; (try simp only [resultA])
  exact post_fin ((Ow.refl _ _).set (Nat.le_refl _) _) g2.unpush.unpush h2 hlr hlb ((TE.ks ⟨t2, l, rfl, hl, ho⟩ ((Ks.refl σ2).set (.inr (by rw [gN])) _)).lo (fun k hk => by have := hk; simp only [push_next] at this; omega))
theorem and_c {d : Int} {m : SM Tr} (hsh : Shr m) (hf : Reads (fun _ => True) 6 r b T d 62 [.pointer (some ⟨r, 0, none⟩)] m) : Reads (fun _ => True) 6 r b T d 35 [.pointer (some ⟨r, 0, none⟩)] (operandsS m [w_and]) := by
  intro σ s he h
  have hlr := h.lr
  have hlb := h.lb
  refine C_enter rfl Tryz.func35 rfl Tryz.ntmps35 Tryz.results35 (Nat.le_of_ble_eq_true rfl) ?_; intro A hz hA; have a0 := hA 0 _ rfl; clear hA
  repeat (first | apply s_R | apply o_n | ((first | apply o_p | (refine' o_g rfl rfl ?_ ?_; rotate_left) | apply w_c); (focus simp (disch := first | decide | (try simp only [zz, hz]) <;> omega | fail) only [go_sem, hz, a0] <;> rfl); with_reducible first | apply o_i | apply g_1 | apply g_2 | apply g_3 | apply g_4 | apply c_1 | apply c_2) | apply r_E | apply b_k | apply s_k | apply s_q)
  refine O_call (by simp (disch := first | decide | (try simp only [zz, hz]) <;> omega | fail) only [go_sem, hz, a0] <;> rfl) ?_
  refine C.mono (operands_c (fs := [.pointer (some ⟨r, 0, none⟩)]) (cs := []) stable_true hsh hf (ws := [w_and]) (Nat.le_of_ble_eq_true rfl) trivial (h.kp (((Kp.refl σ).push _).push _)) (e := 9) (z := 1) (by simp (disch := first | decide | (try simp only [zz, hz]) <;> omega | fail) only [go_sem, hz] <;> rfl) (by first | omega | (simp only [push_next, set_next]; first | done | omega)) (by first | omega | (simp only [push_next, set_next]; first | done | omega))) ?_
  rintro _ σ2 ⟨⟨t2, l, rfl, hl, ho⟩, h2, g2⟩
  have nx2 := g2.next
  simp only [push_next] at nx2
  have gN := (g2.get σ.next (by first | omega | (simp only [push_next, set_next]; first | done | omega)) (by omega)).trans ((push_ne (by first | omega | (simp only [push_next, set_next]; first | done | omega))).trans push_eq)
  repeat (first | apply s_R | apply o_n | ((first | apply o_p | (refine' o_g rfl rfl ?_ ?_; rotate_left) | apply w_c); (focus simp (disch := first | decide | (try simp only [zz, hz]) <;> omega | fail) only [go_sem, hz, a0, hl, ho, gN] <;> rfl); with_reducible first | apply o_i | apply g_1 | apply g_2 | apply g_3 | apply g_4 | apply c_1 | apply c_2) | apply r_E | apply b_k | apply s_k | apply s_q)
  refine W_ret ?_; (try simp only [Then, Out, Jump, JumpL]); refine ret_mk (by simp (disch := first | decide | (try simp only [zz, hz]) <;> omega | fail) only [go_sem, hz, hl] <;> rfl) ?_; (try simp only [resultA])
  exact post_fin ((Ow.refl _ _).set (Nat.le_refl _) _) g2.unpush.unpush h2 hlr hlb ((TE.ks ⟨t2, l, rfl, hl, ho⟩ ((Ks.refl σ2).set (.inr (by rw [gN])) _)).lo (fun k hk => by have := hk; simp only [push_next] at this; omega))
theorem sum_c {d : Int} {m : SM Tr} (hsh : Shr m) (hf : Reads (fun _ => True) 6 r b T d 113 [.pointer (some ⟨r, 0, none⟩)] m) : Reads (fun _ => True) 6 r b T d 108 [.pointer (some ⟨r, 0, none⟩)] (operandsS m [m_plus, m_minus, m_bars]) := by
  intro σ s he h
  have hlr := h.lr
  have hlb := h.lb
  refine C_enter rfl Tryz.func108 rfl Tryz.ntmps108 Tryz.results108 (Nat.le_of_ble_eq_true rfl) ?_; intro A hz hA; have a0 := hA 0 _ rfl; clear hA
  repeat (first | apply s_R | apply o_n | ((first | apply o_p | (refine' o_g rfl rfl ?_ ?_; rotate_left) | apply w_c); (focus simp (disch := first | decide | (try simp only [zz, hz]) <;> omega | fail) only [go_sem, hz, a0] <;> rfl); with_reducible first | apply o_i | apply g_1 | apply g_2 | apply g_3 | apply g_4 | apply c_1 | apply c_2) | apply r_E | apply b_k | apply s_k | apply s_q)
  refine O_call (by simp (disch := first | decide | (try simp only [zz, hz]) <;> omega | fail) only [go_sem, hz, a0] <;> rfl) ?_
  refine C.mono (operands_c (fs := [.pointer (some ⟨r, 0, none⟩)]) (cs := []) stable_true hsh hf (ws := [m_plus, m_minus, m_bars]) (Nat.le_of_ble_eq_true rfl) trivial (h.kp (((Kp.refl σ).push _).push _)) (e := 9) (z := 1) (by simp (disch := first | decide | (try simp only [zz, hz]) <;> omega | fail) only [go_sem, hz] <;> rfl) (by first | omega | (simp only [push_next, set_next]; first | done | omega)) (by first | omega | (simp only [push_next, set_next]; first | done | omega))) ?_
  rintro _ σ2 ⟨⟨t2, l, rfl, hl, ho⟩, h2, g2⟩
  have nx2 := g2.next
  simp only [push_next] at nx2
  have gN := (g2.get σ.next (by first | omega | (simp only [push_next, set_next]; first | done | omega)) (by omega)).trans ((push_ne (by first | omega | (simp only [push_next, set_next]; first | done | omega))).trans push_eq)
  repeat (first | apply s_R | apply o_n | ((first | apply o_p | (refine' o_g rfl rfl ?_ ?_; rotate_left) | apply w_c); (focus simp (disch := first | decide | (try simp only [zz, hz]) <;> omega | fail) only [go_sem, hz, a0, hl, ho, gN] <;> rfl); with_reducible first | apply o_i | apply g_1 | apply g_2 | apply g_3 | apply g_4 | apply c_1 | apply c_2) | apply r_E | apply b_k | apply s_k | apply s_q)
  refine W_ret ?_; (try simp only [Then, Out, Jump, JumpL]); refine ret_mk (by simp (disch := first | decide | (try simp only [zz, hz]) <;> omega | fail) only [go_sem, hz, hl] <;> rfl) ?_; (try simp only [resultA])
  exact post_fin ((Ow.refl _ _).set (Nat.le_refl _) _) g2.unpush.unpush h2 hlr hlb ((TE.ks ⟨t2, l, rfl, hl, ho⟩ ((Ks.refl σ2).set (.inr (by rw [gN])) _)).lo (fun k hk => by have := hk; simp only [push_next] at this; omega))
theorem product_c {d : Int} {m : SM Tr} (hsh : Shr m) (hf : Reads (fun _ => True) 6 r b T d 120 [.pointer (some ⟨r, 0, none⟩)] m) : Reads (fun _ => True) 6 r b T d 113 [.pointer (some ⟨r, 0, none⟩)] (operandsS m [m_star, m_slash, m_pct]) := by
  intro σ s he h
  have hlr := h.lr
  have hlb := h.lb
  refine C_enter rfl Tryz.func113 rfl Tryz.ntmps113 Tryz.results113 (Nat.le_of_ble_eq_true rfl) ?_; intro A hz hA; have a0 := hA 0 _ rfl; clear hA
  repeat (first | apply s_R | apply o_n | ((first | apply o_p | (refine' o_g rfl rfl ?_ ?_; rotate_left) | apply w_c); (focus simp (disch := first | decide | (try simp only [zz, hz]) <;> omega | fail) only [go_sem, hz, a0] <;> rfl); with_reducible first | apply o_i | apply g_1 | apply g_2 | apply g_3 | apply g_4 | apply c_1 | apply c_2) | apply r_E | apply b_k | apply s_k | apply s_q)
  refine O_call (by simp (disch := first | decide | (try simp only [zz, hz]) <;> omega | fail) only [go_sem, hz, a0] <;> rfl) ?_
  refine C.mono (operands_c (fs := [.pointer (some ⟨r, 0, none⟩)]) (cs := []) stable_true hsh hf (ws := [m_star, m_slash, m_pct]) (Nat.le_of_ble_eq_true rfl) trivial (h.kp (((Kp.refl σ).push _).push _)) (e := 9) (z := 1) (by simp (disch := first | decide | (try simp only [zz, hz]) <;> omega | fail) only [go_sem, hz] <;> rfl) (by first | omega | (simp only [push_next, set_next]; first | done | omega)) (by first | omega | (simp only [push_next, set_next]; first | done | omega))) ?_
  rintro _ σ2 ⟨⟨t2, l, rfl, hl, ho⟩, h2, g2⟩
  have nx2 := g2.next
  simp only [push_next] at nx2
  have gN := (g2.get σ.next (by first | omega | (simp only [push_next, set_next]; first | done | omega)) (by omega)).trans ((push_ne (by first | omega | (simp only [push_next, set_next]; first | done | omega))).trans push_eq)
  repeat (first | apply s_R | apply o_n | ((first | apply o_p | (refine' o_g rfl rfl ?_ ?_; rotate_left) | apply w_c); (focus simp (disch := first | decide | (try simp only [zz, hz]) <;> omega | fail) only [go_sem, hz, a0, hl, ho, gN] <;> rfl); with_reducible first | apply o_i | apply g_1 | apply g_2 | apply g_3 | apply g_4 | apply c_1 | apply c_2) | apply r_E | apply b_k | apply s_k | apply s_q)
  refine W_ret ?_; (try simp only [Then, Out, Jump, JumpL]); refine ret_mk (by simp (disch := first | decide | (try simp only [zz, hz]) <;> omega | fail) only [go_sem, hz, hl] <;> rfl) ?_; (try simp only [resultA])
  exact post_fin ((Ow.refl _ _).set (Nat.le_refl _) _) g2.unpush.unpush h2 hlr hlb ((TE.ks ⟨t2, l, rfl, hl, ho⟩ ((Ks.refl σ2).set (.inr (by rw [gN])) _)).lo (fun k hk => by have := hk; simp only [push_next] at this; omega))
structure KOK (K : Knot) (r b : Nat) (T : List Tk) (d : Int) : Prop where
  or : Reads (fun _ => True) 6 r b T d 72 [.pointer (some ⟨r, 0, none⟩)] K.or
  not : Reads (fun _ => True) 6 r b T d 32 [.pointer (some ⟨r, 0, none⟩), .func (.func 62) ⟨[.pointer (some ⟨r, 0, none⟩)]⟩ ⟨[]⟩] K.not
  unary : Reads (fun _ => True) 6 r b T d 32 [.pointer (some ⟨r, 0, none⟩), .func (.func 120) ⟨[.pointer (some ⟨r, 0, none⟩)]⟩ ⟨[]⟩] K.unary
  parts : Reads (fun _ => True) 10 r b T d 66 [.pointer (some ⟨r, 0, none⟩)] K.parts
  sh : ShrK K
theorem take_eq {α : Type} (x : ByteArray) (f g : SM α) (s : Sy) : (takeS x >>= fun b => if b = true then f else g) s = if (takeS x s).1 = true then f (takeS x s).2 else g (takeS x s).2 := by
  show (if (takeS x s).1 = true then f else g) (takeS x s).2 = _
  split <;> rfl
theorem not_c {K : Knot} {d : Int} (hK : KOK K r b T d) (hc : Reads (fun _ => True) 6 r b T d 93 [.pointer (some ⟨r, 0, none⟩)] (comparedS K)) : Reads (fun _ => True) 6 r b T d 62 [.pointer (some ⟨r, 0, none⟩)] (notS K) := by
  intro σ s he h
  have hlr := h.lr
  have hlb := h.lb
  refine C_enter rfl Tryz.func62 rfl Tryz.ntmps62 Tryz.results62 (Nat.le_of_ble_eq_true rfl) ?_; intro A hz hA; have a0 := hA 0 _ rfl; clear hA
  repeat (first | apply s_R | apply o_n | ((first | apply o_p | (refine' o_g rfl rfl ?_ ?_; rotate_left) | apply w_c); (focus simp (disch := first | decide | (try simp only [zz, hz]) <;> omega | fail) only [go_sem, hz, a0] <;> rfl); with_reducible first | apply o_i | apply g_1 | apply g_2 | apply g_3 | apply g_4 | apply c_1 | apply c_2) | apply r_E | apply b_k | apply s_k | apply s_q)
  refine O_call (by simp (disch := first | decide | (try simp only [zz, hz]) <;> omega | fail) only [go_sem, hz, a0] <;> rfl) ?_
  refine C.mono (take_c (h.kp ((Kp.refl σ).push _)) w_not) ?_
  rintro _ σ1 ⟨rfl, h1, g1⟩
  have nx1 := g1.next
  simp only [push_next] at nx1
  have gN1 := (g1.get σ.next (by first | omega | (simp only [push_next, set_next]; first | done | omega)) (by omega)).trans push_eq
  have e : notS K s = if (takeS w_not s).1 = true then (mkE 8 0 eB eB [(K.not (takeS w_not s).2).1] [], (K.not (takeS w_not s).2).2) else comparedS K (takeS w_not s).2 := by
    unfold notS
    rw [take_eq]
    rfl
  rw [e]
  cases ht : (takeS w_not s).1 with
  | true =>
    repeat (first | apply s_R | apply o_n | ((first | apply o_p | (refine' o_g rfl rfl ?_ ?_; rotate_left) | apply w_c); (focus simp (disch := first | decide | (try simp only [zz, hz]) <;> omega | fail) only [go_sem, hz, a0] <;> rfl); with_reducible first | apply o_i | apply g_1 | apply g_2 | apply g_3 | apply g_4 | apply c_1 | apply c_2) | apply r_E | apply b_k | apply s_k | apply s_q)
    refine O_call (by simp (disch := first | decide | (try simp only [zz, hz]) <;> omega | fail) only [go_sem, hz, a0] <;> rfl) ?_
    refine C.mono (hK.not _ _ trivial h1) ?_
    rintro _ σ2 ⟨⟨t2, l, rfl, hl, ho⟩, h2, g2⟩
    have nx2 := g2.next
    have gN := (g2.get σ.next (by omega) (by omega)).trans gN1
    repeat (first | apply s_R | apply o_n | ((first | apply o_p | (refine' o_g rfl rfl ?_ ?_; rotate_left) | apply w_c); (focus simp (disch := first | decide | (try simp only [zz, hz]) <;> omega | fail) only [go_sem, hz, a0, hl, ho, gN] <;> rfl); with_reducible first | apply o_i | apply g_1 | apply g_2 | apply g_3 | apply g_4 | apply c_1 | apply c_2) | apply r_E | apply b_k | apply s_k | apply s_q)
    refine W_ret ?_; (try simp only [Then, Out, Jump, JumpL]); refine ret_mk (by simp (disch := first | decide | (try simp only [zz, hz]) <;> omega | fail) only [go_sem, hz, gN, hl] <;> rfl) ?_; (try simp only [resultA])
    exact post_fin (((Ow.refl _ _).push _).set (Nat.le_refl _) _) (g1.unpush.trans g2) h2 hlr hlb (te_mkE (rd_lit1 (e := 37) (z := 1) (by simp (disch := first | decide | (try simp only [zz, hz]) <;> omega | fail) only [go_sem, hz] <;> rfl) (by decide) (by first | omega | (simp only [push_next, set_next]; first | done | omega)) (by first | omega | (simp only [push_next, set_next]; first | done | omega)) ((TE.ks ⟨t2, l, rfl, hl, ho⟩ (((Ks.refl σ2).push _).set (.inr (by rw [gN])) _)).lo (fun k hk => by have := hk; omega))) (rd_nil _ _ _))
  | false =>
    repeat (first | apply s_R | apply o_n | ((first | apply o_p | (refine' o_g rfl rfl ?_ ?_; rotate_left) | apply w_c); (focus simp (disch := first | decide | (try simp only [zz, hz]) <;> omega | fail) only [go_sem, hz, a0] <;> rfl); with_reducible first | apply o_i | apply g_1 | apply g_2 | apply g_3 | apply g_4 | apply c_1 | apply c_2) | apply r_E | apply b_k | apply s_k | apply s_q)
    refine O_call (by simp (disch := first | decide | (try simp only [zz, hz]) <;> omega | fail) only [go_sem, hz, a0] <;> rfl) ?_
    refine C.mono (hc _ _ trivial h1) ?_
    rintro _ σ2 ⟨⟨t2, l, rfl, hl, ho⟩, h2, g2⟩
    have nx2 := g2.next
    have gN := (g2.get σ.next (by omega) (by omega)).trans gN1
    repeat (first | apply s_R | apply o_n | ((first | apply o_p | (refine' o_g rfl rfl ?_ ?_; rotate_left) | apply w_c); (focus simp (disch := first | decide | (try simp only [zz, hz]) <;> omega | fail) only [go_sem, hz, a0, hl, ho, gN] <;> rfl); with_reducible first | apply o_i | apply g_1 | apply g_2 | apply g_3 | apply g_4 | apply c_1 | apply c_2) | apply r_E | apply b_k | apply s_k | apply s_q)
    refine W_ret ?_; (try simp only [Then, Out, Jump, JumpL]); refine ret_mk (by simp (disch := first | decide | (try simp only [zz, hz]) <;> omega | fail) only [go_sem, hz, hl] <;> rfl) ?_; (try simp only [resultA])
    exact post_fin ((Ow.refl _ _).set (Nat.le_refl _) _) (g1.unpush.trans g2) h2 hlr hlb ((TE.ks ⟨t2, l, rfl, hl, ho⟩ ((Ks.refl σ2).set (.inr (by rw [gN])) _)).lo (fun k hk => by have := hk; omega))
theorem unary_c {K : Knot} {d : Int} (hK : KOK K r b T d) (hc : Reads (fun _ => True) 6 r b T d 127 [.pointer (some ⟨r, 0, none⟩)] (primS K)) : Reads (fun _ => True) 6 r b T d 120 [.pointer (some ⟨r, 0, none⟩)] (unaryS K) := by
  intro σ s he h
  have hlr := h.lr
  have hlb := h.lb
  refine C_enter rfl Tryz.func120 rfl Tryz.ntmps120 Tryz.results120 (Nat.le_of_ble_eq_true rfl) ?_; intro A hz hA; have a0 := hA 0 _ rfl; clear hA
  repeat (first | apply s_R | apply o_n | ((first | apply o_p | (refine' o_g rfl rfl ?_ ?_; rotate_left) | apply w_c); (focus simp (disch := first | decide | (try simp only [zz, hz]) <;> omega | fail) only [go_sem, hz, a0] <;> rfl); with_reducible first | apply o_i | apply g_1 | apply g_2 | apply g_3 | apply g_4 | apply c_1 | apply c_2) | apply r_E | apply b_k | apply s_k | apply s_q)
  refine O_call (by simp (disch := first | decide | (try simp only [zz, hz]) <;> omega | fail) only [go_sem, hz, a0] <;> rfl) ?_
  refine C.mono (take_c (h.kp ((Kp.refl σ).push _)) m_minus) ?_
  rintro _ σ1 ⟨rfl, h1, g1⟩
  have nx1 := g1.next
  simp only [push_next] at nx1
  have gN1 := (g1.get σ.next (by first | omega | (simp only [push_next, set_next]; first | done | omega)) (by omega)).trans push_eq
  have e : unaryS K s = if (takeS m_minus s).1 = true then (mkE 7 0 eB eB [(K.unary (takeS m_minus s).2).1] [], (K.unary (takeS m_minus s).2).2) else primS K (takeS m_minus s).2 := by
    unfold unaryS
    rw [take_eq]
    rfl
  rw [e]
  cases ht : (takeS m_minus s).1 with
  | true =>
    repeat (first | apply s_R | apply o_n | ((first | apply o_p | (refine' o_g rfl rfl ?_ ?_; rotate_left) | apply w_c); (focus simp (disch := first | decide | (try simp only [zz, hz]) <;> omega | fail) only [go_sem, hz, a0] <;> rfl); with_reducible first | apply o_i | apply g_1 | apply g_2 | apply g_3 | apply g_4 | apply c_1 | apply c_2) | apply r_E | apply b_k | apply s_k | apply s_q)
    refine O_call (by simp (disch := first | decide | (try simp only [zz, hz]) <;> omega | fail) only [go_sem, hz, a0] <;> rfl) ?_
    refine C.mono (hK.unary _ _ trivial h1) ?_
    rintro _ σ2 ⟨⟨t2, l, rfl, hl, ho⟩, h2, g2⟩
    have nx2 := g2.next
    have gN := (g2.get σ.next (by omega) (by omega)).trans gN1
    repeat (first | apply s_R | apply o_n | ((first | apply o_p | (refine' o_g rfl rfl ?_ ?_; rotate_left) | apply w_c); (focus simp (disch := first | decide | (try simp only [zz, hz]) <;> omega | fail) only [go_sem, hz, a0, hl, ho, gN] <;> rfl); with_reducible first | apply o_i | apply g_1 | apply g_2 | apply g_3 | apply g_4 | apply c_1 | apply c_2) | apply r_E | apply b_k | apply s_k | apply s_q)
    refine W_ret ?_; (try simp only [Then, Out, Jump, JumpL]); refine ret_mk (by simp (disch := first | decide | (try simp only [zz, hz]) <;> omega | fail) only [go_sem, hz, gN, hl] <;> rfl) ?_; (try simp only [resultA])
    exact post_fin (((Ow.refl _ _).push _).set (Nat.le_refl _) _) (g1.unpush.trans g2) h2 hlr hlb (te_mkE (rd_lit1 (e := 37) (z := 1) (by simp (disch := first | decide | (try simp only [zz, hz]) <;> omega | fail) only [go_sem, hz] <;> rfl) (by decide) (by first | omega | (simp only [push_next, set_next]; first | done | omega)) (by first | omega | (simp only [push_next, set_next]; first | done | omega)) ((TE.ks ⟨t2, l, rfl, hl, ho⟩ (((Ks.refl σ2).push _).set (.inr (by rw [gN])) _)).lo (fun k hk => by have := hk; omega))) (rd_nil _ _ _))
  | false =>
    repeat (first | apply s_R | apply o_n | ((first | apply o_p | (refine' o_g rfl rfl ?_ ?_; rotate_left) | apply w_c); (focus simp (disch := first | decide | (try simp only [zz, hz]) <;> omega | fail) only [go_sem, hz, a0] <;> rfl); with_reducible first | apply o_i | apply g_1 | apply g_2 | apply g_3 | apply g_4 | apply c_1 | apply c_2) | apply r_E | apply b_k | apply s_k | apply s_q)
    refine O_call (by simp (disch := first | decide | (try simp only [zz, hz]) <;> omega | fail) only [go_sem, hz, a0] <;> rfl) ?_
    refine C.mono (hc _ _ trivial h1) ?_
    rintro _ σ2 ⟨⟨t2, l, rfl, hl, ho⟩, h2, g2⟩
    have nx2 := g2.next
    have gN := (g2.get σ.next (by omega) (by omega)).trans gN1
    repeat (first | apply s_R | apply o_n | ((first | apply o_p | (refine' o_g rfl rfl ?_ ?_; rotate_left) | apply w_c); (focus simp (disch := first | decide | (try simp only [zz, hz]) <;> omega | fail) only [go_sem, hz, a0, hl, ho, gN] <;> rfl); with_reducible first | apply o_i | apply g_1 | apply g_2 | apply g_3 | apply g_4 | apply c_1 | apply c_2) | apply r_E | apply b_k | apply s_k | apply s_q)
    refine W_ret ?_; (try simp only [Then, Out, Jump, JumpL]); refine ret_mk (by simp (disch := first | decide | (try simp only [zz, hz]) <;> omega | fail) only [go_sem, hz, hl] <;> rfl) ?_; (try simp only [resultA])
    exact post_fin ((Ow.refl _ _).set (Nat.le_refl _) _) (g1.unpush.trans g2) h2 hlr hlb ((TE.ks ⟨t2, l, rfl, hl, ho⟩ ((Ks.refl σ2).set (.inr (by rw [gN])) _)).lo (fun k hk => by have := hk; omega))
theorem gathers_c (σ : AW) (x : ByteArray) : C Tryz.prog 140 [.string x] σ fun v σ' => v = .bool (gathersB x) ∧ σ' = σ := by
  refine C_enter rfl Tryz.func140 rfl Tryz.ntmps140 Tryz.results140 (Nat.le_of_ble_eq_true rfl) ?_; intro A hz hA; have a0 := hA 0 _ rfl; clear hA
  have e : gathersB x = (decide (x = ⟨#[99, 111, 117, 110, 116]⟩) || decide (x = ⟨#[115, 117, 109]⟩) || decide (x = ⟨#[109, 105, 110]⟩) || decide (x = ⟨#[109, 97, 120]⟩)) := rfl
  rw [e]
  cases c1 : decide (x = ⟨#[99, 111, 117, 110, 116]⟩) <;> cases c2 : decide (x = ⟨#[115, 117, 109]⟩) <;> cases c3 : decide (x = ⟨#[109, 105, 110]⟩) <;> cases c4 : decide (x = ⟨#[109, 97, 120]⟩)
  all_goals
    repeat (first | apply s_R | apply o_n | ((first | apply o_p | (refine' o_g rfl rfl ?_ ?_; rotate_left) | apply w_c); (focus simp (disch := first | decide | (try simp only [zz, hz]) <;> omega | fail) only [go_sem, hz, a0, c1, c2, c3, c4] <;> rfl); with_reducible first | apply o_i | apply g_1 | apply g_2 | apply g_3 | apply g_4 | apply c_1 | apply c_2) | apply r_E | apply b_k | apply s_k | apply s_q)
    refine W_ret ?_; (try simp only [Then, Out, Jump, JumpL]); refine ret_mk (by simp (disch := first | decide | (try simp only [zz, hz]) <;> omega | fail) only [go_sem, hz] <;> rfl) ?_; (try simp only [resultA])
    exact ⟨by first | rfl | trivial, by first | rfl | trivial⟩
def gathIn (K : Knot) (name : ByteArray) : SM (List Tr) := do
    if name = w_count then do
      if ← takeS m_star then pure [] else do
        let x ← K.or
        pure [x]
    else do
      let x ← K.or
      pure [x]
theorem gath_eq (K : Knot) (name : ByteArray) : gatheredS K name = inBracketsS (gathIn K name) := rfl
theorem gathered1_c {K : Knot} {d : Int} (hK : KOK K r b T d) (name : ByteArray) (kn kr : Nat) : ReadsL (fun σ => σ.get kn = ⟨1, 9, 0, [.string name]⟩ ∧ σ.get kr = ⟨1, 50, 0, [.pointer (some ⟨r, 0, none⟩)]⟩ ∧ kn < σ.next ∧ kr < σ.next ∧ kn ≠ r ∧ kr ≠ r) 6 r b T d 142 ([] ++ [.pointer (some ⟨kn, 0, none⟩), .pointer (some ⟨kr, 0, none⟩)]) (gathIn K name) := by
  intro σ s he h
  obtain ⟨gn, gr, l1, l2, n1, n2⟩ := he
  have hlr := h.lr
  have hlb := h.lb
  refine C_enter rfl Tryz.func142 rfl Tryz.ntmps142 Tryz.results142 (Nat.le_of_ble_eq_true rfl) ?_; intro A hz hA; have a0 := hA 0 _ rfl; have a1 := hA 1 _ rfl; clear hA
  have fin : ∀ {σ1 : AW} {s1 : Sy}, Gr r σ σ1 → RdS σ1 r b T d s1 → C Tryz.prog 72 [.pointer (some ⟨r, 0, none⟩)] σ1 (Post 6 r b T d σ1 (K.or s1)) := fun _ h1 => hK.or _ _ trivial h1
  by_cases hc : name = w_count
  · have c1 : decide (name = ⟨#[99, 111, 117, 110, 116]⟩) = true := by rw [hc]; rfl
    repeat (first | apply s_R | apply o_n | ((first | apply o_p | (refine' o_g rfl rfl ?_ ?_; rotate_left) | apply w_c); (focus simp (disch := first | decide | (try simp only [zz, hz]) <;> omega | fail) only [go_sem, hz, a0, a1, gn, gr, c1] <;> rfl); with_reducible first | apply o_i | apply g_1 | apply g_2 | apply g_3 | apply g_4 | apply c_1 | apply c_2) | apply r_E | apply b_k | apply s_k | apply s_q)
    refine O_call (by simp (disch := first | decide | (try simp only [zz, hz]) <;> omega | fail) only [go_sem, hz, a0, a1, gn, gr, c1] <;> rfl) ?_
    refine C.mono (take_c h m_star) ?_
    rintro _ σ1 ⟨rfl, h1, g1⟩
    have nx1 := g1.next
    have gr1 := (g1.get kr l2 n2).trans gr
    have e : gathIn K name s = if (takeS m_star s).1 = true then ([], (takeS m_star s).2) else ([(K.or (takeS m_star s).2).1], (K.or (takeS m_star s).2).2) := by
      unfold gathIn
      rw [if_pos hc, take_eq]
      rfl
    rw [e]
    cases ht : (takeS m_star s).1 with
    | true =>
      repeat (first | apply s_R | apply o_n | ((first | apply o_p | (refine' o_g rfl rfl ?_ ?_; rotate_left) | apply w_c); (focus simp (disch := first | decide | (try simp only [zz, hz]) <;> omega | fail) only [go_sem, hz, a0, a1, gr1] <;> rfl); with_reducible first | apply o_i | apply g_1 | apply g_2 | apply g_3 | apply g_4 | apply c_1 | apply c_2) | apply r_E | apply b_k | apply s_k | apply s_q)
      refine W_ret ?_; (try simp only [Then, Out, Jump, JumpL]); refine ret_mk (by simp (disch := first | decide | (try simp only [zz, hz]) <;> omega | fail) only [go_sem, hz] <;> rfl) ?_; (try simp only [resultA])
      exact ⟨rd_nil _ _ _, h1, g1⟩
    | false =>
      repeat (first | apply s_R | apply o_n | ((first | apply o_p | (refine' o_g rfl rfl ?_ ?_; rotate_left) | apply w_c); (focus simp (disch := first | decide | (try simp only [zz, hz]) <;> omega | fail) only [go_sem, hz, a0, a1, gr1] <;> rfl); with_reducible first | apply o_i | apply g_1 | apply g_2 | apply g_3 | apply g_4 | apply c_1 | apply c_2) | apply r_E | apply b_k | apply s_k | apply s_q)
      refine O_call (by simp (disch := first | decide | (try simp only [zz, hz]) <;> omega | fail) only [go_sem, hz, a0, a1, gr1] <;> rfl) ?_
      refine C.mono (hK.or _ _ trivial h1) ?_
      rintro _ σ2 ⟨⟨t2, l, rfl, hl, ho⟩, h2, g2⟩
      have nx2 := g2.next
      repeat (first | apply s_R | apply o_n | ((first | apply o_p | (refine' o_g rfl rfl ?_ ?_; rotate_left) | apply w_c); (focus simp (disch := first | decide | (try simp only [zz, hz]) <;> omega | fail) only [go_sem, hz, a0, hl, ho] <;> rfl); with_reducible first | apply o_i | apply g_1 | apply g_2 | apply g_3 | apply g_4 | apply c_1 | apply c_2) | apply r_E | apply b_k | apply s_k | apply s_q)
      refine W_ret ?_; (try simp only [Then, Out, Jump, JumpL]); refine ret_mk (by simp (disch := first | decide | (try simp only [zz, hz]) <;> omega | fail) only [go_sem, hz, hl] <;> rfl) ?_; (try simp only [resultA])
      exact postL_fin ((Ow.refl _ _).push _) (g1.trans g2) h2 hlr hlb (rd_lit1 (e := 37) (z := 1) push_eq (by decide) (Nat.lt_succ_self _) (by omega) ((TE.ks ⟨t2, l, rfl, hl, ho⟩ ((Ks.refl σ2).push _)).lo (fun k hk => by have := hk; omega)))
  · have c1 : decide (name = ⟨#[99, 111, 117, 110, 116]⟩) = false := by simp only [decide_eq_false_iff_not]; exact hc
    repeat (first | apply s_R | apply o_n | ((first | apply o_p | (refine' o_g rfl rfl ?_ ?_; rotate_left) | apply w_c); (focus simp (disch := first | decide | (try simp only [zz, hz]) <;> omega | fail) only [go_sem, hz, a0, a1, gn, gr, c1] <;> rfl); with_reducible first | apply o_i | apply g_1 | apply g_2 | apply g_3 | apply g_4 | apply c_1 | apply c_2) | apply r_E | apply b_k | apply s_k | apply s_q)
    refine O_call (by simp (disch := first | decide | (try simp only [zz, hz]) <;> omega | fail) only [go_sem, hz, a0, a1, gn, gr, c1] <;> rfl) ?_
    refine C.mono (hK.or _ _ trivial h) ?_
    rintro _ σ2 ⟨⟨t2, l, rfl, hl, ho⟩, h2, g2⟩
    have nx2 := g2.next
    have e : gathIn K name s = ([(K.or s).1], (K.or s).2) := by
      unfold gathIn
      rw [if_neg hc]
      rfl
    rw [e]
    repeat (first | apply s_R | apply o_n | ((first | apply o_p | (refine' o_g rfl rfl ?_ ?_; rotate_left) | apply w_c); (focus simp (disch := first | decide | (try simp only [zz, hz]) <;> omega | fail) only [go_sem, hz, a0, hl, ho] <;> rfl); with_reducible first | apply o_i | apply g_1 | apply g_2 | apply g_3 | apply g_4 | apply c_1 | apply c_2) | apply r_E | apply b_k | apply s_k | apply s_q)
    refine W_ret ?_; (try simp only [Then, Out, Jump, JumpL]); refine ret_mk (by simp (disch := first | decide | (try simp only [zz, hz]) <;> omega | fail) only [go_sem, hz, hl] <;> rfl) ?_; (try simp only [resultA])
    exact postL_fin (p := ([(K.or s).1], (K.or s).2)) ((Ow.refl _ _).push _) g2 h2 hlr hlb (rd_lit1 (e := 37) (z := 1) push_eq (by decide) (Nat.lt_succ_self _) (by omega) ((TE.ks ⟨t2, l, rfl, hl, ho⟩ ((Ks.refl σ2).push _)).lo (fun k hk => by have := hk; omega)))
theorem gathered_c {K : Knot} {d : Int} (hK : KOK K r b T d) (name : ByteArray) : ReadsL (fun _ => True) 6 r b T d 141 [.pointer (some ⟨r, 0, none⟩), .string name] (gatheredS K name) := by
  intro σ s he h
  have hlr := h.lr
  have hlb := h.lb
  rw [gath_eq]
  refine C_enter rfl Tryz.func141 rfl Tryz.ntmps141 Tryz.results141 (Nat.le_of_ble_eq_true rfl) ?_; intro A hz hA; have a0 := hA 0 _ rfl; have a1 := hA 1 _ rfl; clear hA
  repeat (first | apply s_R | apply o_n | ((first | apply o_p | (refine' o_g rfl rfl ?_ ?_; rotate_left) | apply w_c); (focus simp (disch := first | decide | (try simp only [zz, hz]) <;> omega | fail) only [go_sem, hz, a0, a1] <;> rfl); with_reducible first | apply o_i | apply g_1 | apply g_2 | apply g_3 | apply g_4 | apply c_1 | apply c_2) | apply r_E | apply b_k | apply s_k | apply s_q)
  refine O_call (by simp (disch := first | decide | (try simp only [zz, hz]) <;> omega | fail) only [go_sem, hz, a0, a1] <;> rfl) ?_
  refine C.mono (inbLE_c (fs := []) (cs := [.pointer (some ⟨σ.next + 1, 0, none⟩), .pointer (some ⟨σ.next, 0, none⟩)]) (fun τ τ' he g => ⟨(g.get _ he.2.2.1 he.2.2.2.2.1).trans he.1, (g.get _ he.2.2.2.1 he.2.2.2.2.2).trans he.2.1, Nat.lt_of_lt_of_le he.2.2.1 g.next, Nat.lt_of_lt_of_le he.2.2.2.1 g.next, he.2.2.2.2⟩) (gathered1_c hK name (σ.next + 1) σ.next) _ _ (by refine' ⟨?_, ?_, by first | omega | (simp only [push_next, set_next]; first | done | omega), by first | omega | (simp only [push_next, set_next]; first | done | omega), by omega, by omega⟩; any_goals simp (disch := first | decide | (try simp only [zz, hz]) <;> omega | fail) only [go_sem, hz] <;> rfl) (h.kp (((Kp.refl σ).push _).push _))) ?_
  rintro v2 σ2 ⟨t2, h2, g2⟩
  repeat (first | apply s_R | apply o_n | ((first | apply o_p | (refine' o_g rfl rfl ?_ ?_; rotate_left) | apply w_c); (focus simp (disch := first | decide | (try simp only [zz, hz]) <;> omega | fail) only [go_sem, hz, a0, a1] <;> rfl); with_reducible first | apply o_i | apply g_1 | apply g_2 | apply g_3 | apply g_4 | apply c_1 | apply c_2) | apply r_E | apply b_k | apply s_k | apply s_q)
  refine W_ret ?_; (try simp only [Then, Out, Jump, JumpL]); refine ret_mk (by simp (disch := first | decide | (try simp only [zz, hz]) <;> omega | fail) only [go_sem, hz] <;> rfl) ?_; (try simp only [resultA])
  exact ⟨t2.keep (fun _ _ _ _ => rfl) (Nat.le_refl _) (fun k hk _ => by have := hk; simp only [push_next] at this; omega), h2, g2.unpush.unpush⟩
theorem sees_eq {α : Type} (x : ByteArray) (f g : SM α) (s : Sy) : (seesS x >>= fun b => if b = true then f else g) s = if seesB x s = true then f s else g s := by
  show (if seesB x s = true then f else g) s = _
  split <;> rfl
theorem bracketed_c {K : Knot} {d : Int} (hK : KOK K r b T d) : Reads (fun _ => True) 6 r b T d 136 [.pointer (some ⟨r, 0, none⟩)] (bracketedS K) := by
  intro σ s he h
  have hlr := h.lr
  have hlb := h.lb
  refine C_enter rfl Tryz.func136 rfl Tryz.ntmps136 Tryz.results136 (Nat.le_of_ble_eq_true rfl) ?_; intro A hz hA; have a0 := hA 0 _ rfl; clear hA
  repeat (first | apply s_R | apply o_n | ((first | apply o_p | (refine' o_g rfl rfl ?_ ?_; rotate_left) | apply w_c); (focus simp (disch := first | decide | (try simp only [zz, hz]) <;> omega | fail) only [go_sem, hz, a0] <;> rfl); with_reducible first | apply o_i | apply g_1 | apply g_2 | apply g_3 | apply g_4 | apply c_1 | apply c_2) | apply r_E | apply b_k | apply s_k | apply s_q)
  refine O_call (by simp (disch := first | decide | (try simp only [zz, hz]) <;> omega | fail) only [go_sem, hz, a0] <;> rfl) ?_
  refine C.mono (sees_s (h.kp ((Kp.refl σ).push _)) w_select) ?_
  rintro _ σ1 ⟨rfl, k1⟩
  have h1 := (h.kp ((Kp.refl σ).push _)).kp k1
  have nx1 := k1.next
  simp only [push_next] at nx1
  have gN1 := (k1.get σ.next (by first | omega | (simp only [push_next, set_next]; first | done | omega))).trans push_eq
  have g1 := (k1.gr r).unpush
  have e : bracketedS K s = if seesB w_select s = true then (mkE 14 0 eB eB [] [(K.parts s).1], (K.parts s).2) else K.or s := by
    unfold bracketedS
    rw [sees_eq]
    rfl
  rw [e]
  cases ht : seesB w_select s with
  | true =>
    repeat (first | apply s_R | apply o_n | ((first | apply o_p | (refine' o_g rfl rfl ?_ ?_; rotate_left) | apply w_c); (focus simp (disch := first | decide | (try simp only [zz, hz]) <;> omega | fail) only [go_sem, hz, a0] <;> rfl); with_reducible first | apply o_i | apply g_1 | apply g_2 | apply g_3 | apply g_4 | apply c_1 | apply c_2) | apply r_E | apply b_k | apply s_k | apply s_q)
    refine O_call (by simp (disch := first | decide | (try simp only [zz, hz]) <;> omega | fail) only [go_sem, hz, a0] <;> rfl) ?_
    refine C.mono (hK.parts _ _ trivial h1) ?_
    rintro _ σ2 ⟨⟨t2, l, rfl, hl, ho⟩, h2, g2⟩
    have nx2 := g2.next
    have gN := (g2.get σ.next (by omega) (by omega)).trans gN1
    repeat (first | apply s_R | apply o_n | ((first | apply o_p | (refine' o_g rfl rfl ?_ ?_; rotate_left) | apply w_c); (focus simp (disch := first | decide | (try simp only [zz, hz]) <;> omega | fail) only [go_sem, hz, a0, hl, ho, gN] <;> rfl); with_reducible first | apply o_i | apply g_1 | apply g_2 | apply g_3 | apply g_4 | apply c_1 | apply c_2) | apply r_E | apply b_k | apply s_k | apply s_q)
    refine W_ret ?_; (try simp only [Then, Out, Jump, JumpL]); refine ret_mk (by simp (disch := first | decide | (try simp only [zz, hz]) <;> omega | fail) only [go_sem, hz, gN, hl] <;> rfl) ?_; (try simp only [resultA])
    exact post_fin (((Ow.refl _ _).push _).set (Nat.le_refl _) _) (g1.trans g2) h2 hlr hlb (te_mkE (rd_nil _ _ _) (rd_lit1 (e := 44) (z := 1) (by simp (disch := first | decide | (try simp only [zz, hz]) <;> omega | fail) only [go_sem, hz] <;> rfl) (by decide) (by first | omega | (simp only [push_next, set_next]; first | done | omega)) (by first | omega | (simp only [push_next, set_next]; first | done | omega)) ((TE.ks ⟨t2, l, rfl, hl, ho⟩ (((Ks.refl σ2).push _).set (.inr (by rw [gN])) _)).lo (fun k hk => by have := hk; omega))))
  | false =>
    repeat (first | apply s_R | apply o_n | ((first | apply o_p | (refine' o_g rfl rfl ?_ ?_; rotate_left) | apply w_c); (focus simp (disch := first | decide | (try simp only [zz, hz]) <;> omega | fail) only [go_sem, hz, a0] <;> rfl); with_reducible first | apply o_i | apply g_1 | apply g_2 | apply g_3 | apply g_4 | apply c_1 | apply c_2) | apply r_E | apply b_k | apply s_k | apply s_q)
    refine O_call (by simp (disch := first | decide | (try simp only [zz, hz]) <;> omega | fail) only [go_sem, hz, a0] <;> rfl) ?_
    refine C.mono (hK.or _ _ trivial h1) ?_
    rintro _ σ2 ⟨⟨t2, l, rfl, hl, ho⟩, h2, g2⟩
    have nx2 := g2.next
    have gN := (g2.get σ.next (by omega) (by omega)).trans gN1
    repeat (first | apply s_R | apply o_n | ((first | apply o_p | (refine' o_g rfl rfl ?_ ?_; rotate_left) | apply w_c); (focus simp (disch := first | decide | (try simp only [zz, hz]) <;> omega | fail) only [go_sem, hz, a0, hl, ho, gN] <;> rfl); with_reducible first | apply o_i | apply g_1 | apply g_2 | apply g_3 | apply g_4 | apply c_1 | apply c_2) | apply r_E | apply b_k | apply s_k | apply s_q)
    refine W_ret ?_; (try simp only [Then, Out, Jump, JumpL]); refine ret_mk (by simp (disch := first | decide | (try simp only [zz, hz]) <;> omega | fail) only [go_sem, hz, hl] <;> rfl) ?_; (try simp only [resultA])
    exact post_fin ((Ow.refl _ _).set (Nat.le_refl _) _) (g1.trans g2) h2 hlr hlb ((TE.ks ⟨t2, l, rfl, hl, ho⟩ ((Ks.refl σ2).set (.inr (by rw [gN])) _)).lo (fun k hk => by have := hk; omega))
end
end Go.Proofs.YtckidlbmoalomaaGreatDoor


namespace Go.Proofs.YtckidlbmoalomaaGreatDoor
open Go.RowKit
set_option maxRecDepth 10000
set_option linter.unusedSimpArgs false
set_option linter.unusedVariables false

section
variable {r b : Nat} {T : List Tk}
def WordOK : Prop := ∀ (σ : AW) (x : ByteArray), C Tryz.prog 85 [.string x] σ fun v σ' => v = .bool (wordB x) ∧ σ' = σ
theorem named_c (hW : WordOK) {K : Knot} {d : Int} (hK : KOK K r b T d) : Reads (fun _ => True) 6 r b T d 137 [.pointer (some ⟨r, 0, none⟩)] (namedS K) := by
  intro σ s he h
  have hlr := h.lr
  have hlb := h.lb
  refine C_enter rfl Tryz.func137 rfl Tryz.ntmps137 Tryz.results137 (Nat.le_of_ble_eq_true rfl) ?_; intro A hz hA; have a0 := hA 0 _ rfl; clear hA
  repeat (first | apply s_R | apply o_n | ((first | apply o_p | (refine' o_g rfl rfl ?_ ?_; rotate_left) | apply w_c); (focus simp (disch := first | decide | (try simp only [zz, hz]) <;> omega | fail) only [go_sem, hz, a0] <;> rfl); with_reducible first | apply o_i | apply g_1 | apply g_2 | apply g_3 | apply g_4 | apply c_1 | apply c_2) | apply r_E | apply b_k | apply s_k | apply s_q)
  refine O_call (by simp (disch := first | decide | (try simp only [zz, hz]) <;> omega | fail) only [go_sem, hz, a0] <;> rfl) ?_
  refine C.mono (name_c hW (h.kp ((Kp.refl σ).push _))) ?_
  rintro _ σ1 ⟨rfl, h1, g1⟩
  have nx1 := g1.next
  simp only [push_next] at nx1
  have gN1 := (g1.get σ.next (by first | omega | (simp only [push_next, set_next]; first | done | omega)) (by omega)).trans push_eq
  repeat (first | apply s_R | apply o_n | ((first | apply o_p | (refine' o_g rfl rfl ?_ ?_; rotate_left) | apply w_c); (focus simp (disch := first | decide | (try simp only [zz, hz]) <;> omega | fail) only [go_sem, hz, a0] <;> rfl); with_reducible first | apply o_i | apply g_1 | apply g_2 | apply g_3 | apply g_4 | apply c_1 | apply c_2) | apply r_E | apply b_k | apply s_k | apply s_q)
  refine O_call (by simp (disch := first | decide | (try simp only [zz, hz]) <;> omega | fail) only [go_sem, hz, a0] <;> rfl) ?_
  refine C.mono (take_c h1 m_dot) ?_
  rintro _ σ2 ⟨rfl, h2, g2⟩
  have nx2 := g2.next
  have gN2 := (g2.get σ.next (by omega) (by omega)).trans gN1
  have e : namedS K s = if (takeS m_dot (nameS s).2).1 = true then (mkE 5 0 (nameS (takeS m_dot (nameS s).2).2).1 (nameS s).1 [] [], (nameS (takeS m_dot (nameS s).2).2).2)
      else if gathersB (nameS s).1 = true then (if seesB m_lp (takeS m_dot (nameS s).2).2 = true then (mkE 15 0 (nameS s).1 eB (gatheredS K (nameS s).1 (takeS m_dot (nameS s).2).2).1 [], (gatheredS K (nameS s).1 (takeS m_dot (nameS s).2).2).2) else (mkE 5 0 (nameS s).1 eB [] [], (takeS m_dot (nameS s).2).2))
      else (mkE 5 0 (nameS s).1 eB [] [], (takeS m_dot (nameS s).2).2) := by
    unfold namedS
    rw [SM.bind_run, take_eq]
    by_cases q1 : (takeS m_dot (nameS s).2).1 = true
    · rw [if_pos q1, if_pos q1]; rfl
    · rw [if_neg q1, if_neg q1]
      by_cases q2 : gathersB (nameS s).1 = true
      · rw [if_pos q2, if_pos q2, sees_eq]; rfl
      · rw [if_neg q2, if_neg q2]; rfl
  rw [e]
  cases ht : (takeS m_dot (nameS s).2).1 with
  | true =>
    repeat (first | apply s_R | apply o_n | ((first | apply o_p | (refine' o_g rfl rfl ?_ ?_; rotate_left) | apply w_c); (focus simp (disch := first | decide | (try simp only [zz, hz]) <;> omega | fail) only [go_sem, hz, a0] <;> rfl); with_reducible first | apply o_i | apply g_1 | apply g_2 | apply g_3 | apply g_4 | apply c_1 | apply c_2) | apply r_E | apply b_k | apply s_k | apply s_q)
    refine O_call (by simp (disch := first | decide | (try simp only [zz, hz]) <;> omega | fail) only [go_sem, hz, a0] <;> rfl) ?_
    refine C.mono (name_c hW h2) ?_
    rintro _ σ3 ⟨rfl, h3, g3⟩
    have gN3 := (g3.get σ.next (by omega) (by omega)).trans gN2
    repeat (first | apply s_R | apply o_n | ((first | apply o_p | (refine' o_g rfl rfl ?_ ?_; rotate_left) | apply w_c); (focus simp (disch := first | decide | (try simp only [zz, hz]) <;> omega | fail) only [go_sem, hz, a0, gN3] <;> rfl); with_reducible first | apply o_i | apply g_1 | apply g_2 | apply g_3 | apply g_4 | apply c_1 | apply c_2) | apply r_E | apply b_k | apply s_k | apply s_q)
    refine W_ret ?_; (try simp only [Then, Out, Jump, JumpL]); refine ret_mk (by simp (disch := first | decide | (try simp only [zz, hz]) <;> omega | fail) only [go_sem, hz] <;> rfl) ?_; (try simp only [resultA])
    exact post_fin ((Ow.refl _ _).set (Nat.le_refl _) _) ((g1.unpush.trans g2).trans g3) h3 hlr hlb (te_mkE (rd_nil _ _ _) (rd_nil _ _ _))
  | false =>
    repeat (first | apply s_R | apply o_n | ((first | apply o_p | (refine' o_g rfl rfl ?_ ?_; rotate_left) | apply w_c); (focus simp (disch := first | decide | (try simp only [zz, hz]) <;> omega | fail) only [go_sem, hz, a0] <;> rfl); with_reducible first | apply o_i | apply g_1 | apply g_2 | apply g_3 | apply g_4 | apply c_1 | apply c_2) | apply r_E | apply b_k | apply s_k | apply s_q)
    refine O_call (by simp (disch := first | decide | (try simp only [zz, hz]) <;> omega | fail) only [go_sem, hz, a0] <;> rfl) ?_
    refine C.mono (gathers_c _ _) ?_
    rintro _ _ ⟨rfl, rfl⟩
    cases hg : gathersB (nameS s).1 with
    | false =>
      repeat (first | apply s_R | apply o_n | ((first | apply o_p | (refine' o_g rfl rfl ?_ ?_; rotate_left) | apply w_c); (focus simp (disch := first | decide | (try simp only [zz, hz]) <;> omega | fail) only [go_sem, hz, a0, gN2] <;> rfl); with_reducible first | apply o_i | apply g_1 | apply g_2 | apply g_3 | apply g_4 | apply c_1 | apply c_2) | apply r_E | apply b_k | apply s_k | apply s_q)
      refine W_ret ?_; (try simp only [Then, Out, Jump, JumpL]); refine ret_mk (by simp (disch := first | decide | (try simp only [zz, hz]) <;> omega | fail) only [go_sem, hz] <;> rfl) ?_; (try simp only [resultA])
      exact post_fin ((Ow.refl _ _).set (Nat.le_refl _) _) (g1.unpush.trans g2) h2 hlr hlb (te_mkE (rd_nil _ _ _) (rd_nil _ _ _))
    | true =>
      repeat (first | apply s_R | apply o_n | ((first | apply o_p | (refine' o_g rfl rfl ?_ ?_; rotate_left) | apply w_c); (focus simp (disch := first | decide | (try simp only [zz, hz]) <;> omega | fail) only [go_sem, hz, a0] <;> rfl); with_reducible first | apply o_i | apply g_1 | apply g_2 | apply g_3 | apply g_4 | apply c_1 | apply c_2) | apply r_E | apply b_k | apply s_k | apply s_q)
      refine O_call (by simp (disch := first | decide | (try simp only [zz, hz]) <;> omega | fail) only [go_sem, hz, a0] <;> rfl) ?_
      refine C.mono (sees_s h2 m_lp) ?_
      rintro _ σ3 ⟨rfl, k3⟩
      have gN3 := (k3.get σ.next (by omega)).trans gN2
      have nx3 := k3.next
      cases hs : seesB m_lp (takeS m_dot (nameS s).2).2 with
      | false =>
        repeat (first | apply s_R | apply o_n | ((first | apply o_p | (refine' o_g rfl rfl ?_ ?_; rotate_left) | apply w_c); (focus simp (disch := first | decide | (try simp only [zz, hz]) <;> omega | fail) only [go_sem, hz, a0, gN3] <;> rfl); with_reducible first | apply o_i | apply g_1 | apply g_2 | apply g_3 | apply g_4 | apply c_1 | apply c_2) | apply r_E | apply b_k | apply s_k | apply s_q)
        refine W_ret ?_; (try simp only [Then, Out, Jump, JumpL]); refine ret_mk (by simp (disch := first | decide | (try simp only [zz, hz]) <;> omega | fail) only [go_sem, hz] <;> rfl) ?_; (try simp only [resultA])
        exact post_fin ((Ow.refl _ _).set (Nat.le_refl _) _) ((g1.unpush.trans g2).kp k3) (h2.kp k3) hlr hlb (te_mkE (rd_nil _ _ _) (rd_nil _ _ _))
      | true =>
        repeat (first | apply s_R | apply o_n | ((first | apply o_p | (refine' o_g rfl rfl ?_ ?_; rotate_left) | apply w_c); (focus simp (disch := first | decide | (try simp only [zz, hz]) <;> omega | fail) only [go_sem, hz, a0] <;> rfl); with_reducible first | apply o_i | apply g_1 | apply g_2 | apply g_3 | apply g_4 | apply c_1 | apply c_2) | apply r_E | apply b_k | apply s_k | apply s_q)
        refine O_call (by simp (disch := first | decide | (try simp only [zz, hz]) <;> omega | fail) only [go_sem, hz, a0] <;> rfl) ?_
        refine C.mono (gathered_c hK _ _ _ trivial (h2.kp k3)) ?_
        rintro v4 σ4 ⟨t4, h4, g4⟩
        have gN4 := (g4.get σ.next (by omega) (by omega)).trans gN3
        have o4 := rd_one t4
        obtain ⟨vl, vc, va, rfl⟩ : ∃ a l c, v4 = .slice a l c := by
          obtain ⟨m, _, hs⟩ := rd_sl.1 t4
          rcases hs with ⟨_, c, rfl⟩ | ⟨b, o, c, k, e, z, cs, rfl, _⟩
          · exact ⟨_, _, _, rfl⟩
          · exact ⟨_, _, _, rfl⟩
        repeat (first | apply s_R | apply o_n | ((first | apply o_p | (refine' o_g rfl rfl ?_ ?_; rotate_left) | apply w_c); (focus simp (disch := first | decide | (try simp only [zz, hz]) <;> omega | fail) only [go_sem, hz, a0, gN4, o4] <;> rfl); with_reducible first | apply o_i | apply g_1 | apply g_2 | apply g_3 | apply g_4 | apply c_1 | apply c_2) | apply r_E | apply b_k | apply s_k | apply s_q)
        refine W_ret ?_; (try simp only [Then, Out, Jump, JumpL]); refine ret_mk (by simp (disch := first | decide | (try simp only [zz, hz]) <;> omega | fail) only [go_sem, hz] <;> rfl) ?_; (try simp only [resultA])
        exact post_fin ((Ow.refl _ _).set (Nat.le_refl _) _) (((g1.unpush.trans g2).kp k3).trans g4) h4 hlr hlb (te_mkE ((t4.ks ((Ks.refl σ4).set (.inr (by rw [gN4])) _)).keep (fun _ _ _ _ => rfl) (Nat.le_refl _) (fun k hk _ => by have := hk; omega)) (rd_nil _ _ _))
theorem Ow.mono {N N' : Nat} {σ σ' : AW} (h : Ow N σ σ') (hn : N' ≤ N) : Ow N' σ σ' := ⟨h.next, fun k h1 h2 => h.get k h1 (by omega)⟩
def chLoop (K : Knot) : List ByteArray → List Tr → SM (List Tr)
  | [], acc => pure acc
  | w :: ws, acc => do
    wantS w
    let x ← K.or
    chLoop K ws (acc ++ [x])
theorem choice_eq (K : Knot) (s : Sy) : choiceS K s = (mkE 11 0 eB eB (chLoop K [w_when, w_then, w_else] [] s).1 [], (wantS w_end (chLoop K [w_when, w_then, w_else] [] s).2).2) := rfl
def GrowO (σ : AW) (N e n : Nat) (v : Value) (vs ps : List Value) : Prop := (vs = [] ∧ ps = [] ∧ v = .slice none 0 0) ∨ Grow σ N e n v vs ps
theorem append_0 {P : Program} {σ : AW} {t e n bts M o : Nat} {zv : Value} (hu : P.underlying t = some (.slice e)) (hio : (P.info? e).map (fun i => (i.zero, i.size, i.bytes)) = some (some zv, n, bts)) (hz : (cellsL zv).length = n) {l : List Value} (hM : σ.get M = ⟨1, e, o, l⟩) (hl : l.length = n) (ho : l.all oneB = true) (hb : 770 * bts ≤ 281474976710656) :
    appendA P σ t t (.slice none 0 0) (.slice (some ⟨M, 0, none⟩) 1 2) = some (.slice (some ⟨σ.next, 0, none⟩) 1 1, σ.push ⟨2, e, n, l⟩) := by
  cases hi : P.info? e with
  | none => rw [hi] at hio; cases hio
  | some i =>
    rw [hi] at hio
    simp only [Option.map_some, Option.some.injEq, Prod.mk.injEq] at hio
    obtain ⟨h1, h2, h3⟩ := hio
    have hsrc : srcA P σ n t (.slice (some ⟨M, 0, none⟩) 1 2) = some (1, l) := by
      have e2 : List.take n (List.drop 0 l) = l := by rw [List.drop_zero, List.take_of_length_le (by omega)]
      simp only [srcA, hu, rowOf, hM, Nat.one_mul, e2, hl, ho, and_self, if_true]
    simp only [appendA, hu, hi, h2, hsrc, show ¬ (1 = 0) by decide, if_false, growA, h1, h3, hz]
    rw [if_pos ⟨trivial, by omega, by simpa using hb, by omega⟩]
    simp
theorem growO_app {P : Program} {r : Nat} {σ3 σ4 : AW} {N t e n bts : Nat} {zv v p : Value} {vs ps l : List Value} (hu : P.underlying t = some (.slice e)) (hio : (P.info? e).map (fun i => (i.zero, i.size, i.bytes)) = some (some zv, n, bts)) (hz : (cellsL zv).length = n) (hn : 0 < n)
    (hr : r < N) (hN : N ≤ σ3.next) (hG : GrowO σ3 N e n v vs ps) (g : Gr r σ3 σ4) (ht : TE n σ4 (fun k => σ3.next ≤ k) (.agg ⟨l⟩) p) (hb : (2 * (vs.length + 1) + 768) * bts ≤ 281474976710656) (hlen : vs.length + 1 ≤ 1000000000) :
    ∃ v' σ', appendA P (σ4.push ⟨1, e, 1, l⟩) t t v (.slice (some ⟨σ4.next, 0, none⟩) 1 2) = some (v', σ') ∧ Grow σ' N e n v' (vs ++ [.agg ⟨l⟩]) (ps ++ [p]) ∧ Ow N σ4 σ' ∧ (∀ k, k < σ4.next → (σ4.get k).esz = 0 → σ'.get k = σ4.get k) := by
  rcases hG with ⟨rfl, rfl, rfl⟩ | hG
  · obtain ⟨t4, _, e2, hl4, ho4⟩ := ht
    injection e2 with e2
    injection e2 with e2
    subst e2
    have nx := g.next
    refine ⟨_, _, append_0 hu hio hz push_eq hl4 ho4 (by simpa using hb), ⟨σ4.next + 1, 1, 2, n, rfl, (push_at rfl).trans (by simp [cellsL]), .inr ⟨rfl, rfl, rfl⟩, by omega, Nat.lt_succ_self _, ?_, ?_⟩, ((Ow.refl N σ4).push _).push _, fun j hj _ => by rw [push_ne (by first | omega | (simp only [push_next, set_next]; first | done | omega)), push_ne (by omega)]⟩
    · refine RdL.one (t4.keep (fun j hj hlt _ => by rw [push_ne (by first | omega | (simp only [push_next, set_next]; first | done | omega)), push_ne (by omega)]) (by first | omega | (simp only [push_next, set_next]; first | done | omega)) (fun j hj hlt => ⟨by have := hj; omega, by omega⟩))
    · intro u hu
      have hu : u = .agg ⟨l⟩ := by simpa using hu
      subst hu
      exact ⟨l, rfl, hl4, ho4⟩
  · exact grow_app hu hio hz hn hr hN hG g ht hb hlen
theorem choice_c {K : Knot} {d : Int} (hK : KOK K r b T d) : Reads (fun _ => True) 6 r b T d 134 [.pointer (some ⟨r, 0, none⟩)] (choiceS K) := by
  intro σ s he h
  have hlr := h.lr
  have hlb := h.lb
  refine C_enter rfl Tryz.func134 rfl Tryz.ntmps134 Tryz.results134 (Nat.le_of_ble_eq_true rfl) ?_; intro A hz hA; have a0 := hA 0 _ rfl; clear hA
  repeat (first | apply s_R | apply o_n | ((first | apply o_p | (refine' o_g rfl rfl ?_ ?_; rotate_left) | apply w_c); (focus simp (disch := first | decide | (try simp only [zz, hz]) <;> omega | fail) only [go_sem, hz, a0] <;> rfl); with_reducible first | apply o_i | apply g_1 | apply g_2 | apply g_3 | apply g_4 | apply c_1 | apply c_2) | apply r_E | apply b_k | apply s_k | apply s_q)
  refine W_loop (WL_inv (fun m B σ1 => ∃ (j : Nat) (s1 : Sy) (ps vs : List Value) (v : Value), j ≤ 3 ∧ m = 3 - j ∧ vs.length = j ∧ B.size = 27 ∧ B.get 0 = some (.pointer (some ⟨r, 0, none⟩)) ∧ B.get 2 = some (.pointer (some ⟨σ.next, 0, none⟩)) ∧ B.get 3 = some (.pointer (some ⟨σ.next + 1, 0, none⟩)) ∧ B.get 7 = some (.slice (some ⟨σ.next + 2, 0, none⟩) 3 6) ∧ B.get 8 = some (.int .i64 3) ∧ B.get 9 = some (.int .i64 (j : Int)) ∧ RdS σ1 r b T d s1 ∧ Gr r σ σ1 ∧ σ.next + 3 ≤ σ1.next ∧ σ1.get σ.next = ⟨1, 37, 0, [.int .i64 0, .int .i64 0, .string ⟨#[]⟩, .string ⟨#[]⟩, .slice none 0 0, .slice none 0 0]⟩ ∧ σ1.get (σ.next + 1) = ⟨1, 37, 0, [.int .i64 11, .int .i64 0, .string ⟨#[]⟩, .string ⟨#[]⟩, v, .slice none 0 0]⟩ ∧ σ1.get (σ.next + 2) = ⟨1, 9, 1, [w_when, w_then, w_else].map Value.string⟩ ∧ (∃ va vl vc, v = .slice va vl vc) ∧ GrowO σ1 (σ.next + 3) 37 6 v vs ps ∧ chLoop K ([w_when, w_then, w_else].drop j) ps s1 = chLoop K [w_when, w_then, w_else] [] s) ?_ (m := 3) (by refine' ⟨0, s, [], [], .slice none 0 0, by omega, rfl, rfl, ?_, ?_, ?_, ?_, ?_, ?_, ?_, h.kp ((((Kp.refl σ).push _).push _).set (by first | omega | (simp only [push_next, set_next]; first | done | omega)) _ |>.push _), (((((Kp.refl σ).push _).push _).set (by first | omega | (simp only [push_next, set_next]; first | done | omega)) _ |>.push _).gr r), (by first | omega | (simp only [push_next, set_next]; first | done | omega)), ?_, ?_, ?_, ⟨_, _, _, rfl⟩, .inl ⟨rfl, rfl, rfl⟩, rfl⟩; any_goals simp (disch := first | decide | (try simp only [zz, hz]) <;> omega | fail) only [go_sem, hz, a0] <;> rfl))
  rintro m B σ1 ⟨j, s1, ps, vs, v, hj, rfl, hvl, hz, b0, b2, b3, b7, b8, b9, h1, g1, nx, gN, gM, gW, ⟨va, vl, vc, rfl⟩, hG, hloop⟩
  by_cases hlt : j < 3
  · have c1 : decide ((j : Int) < 3) = true := by simp; omega
    have hlt' : j < ([w_when, w_then, w_else] : List ByteArray).length := hlt
    have e1 : elemAtA Tryz.prog 9 ⟨σ.next + 2, 0, none⟩ 3 (j : Int) = some (.pointer (some ⟨σ.next + 2, j, none⟩)) := by rw [elem_i sz_9 hlt, add_none]; simp
    have e2 : ([w_when, w_then, w_else].map Value.string)[j]? = some (.string ([w_when, w_then, w_else] : List ByteArray)[j]) := by rw [List.getElem?_map, List.getElem?_eq_getElem hlt']; rfl
    rw [List.drop_eq_getElem_cons hlt'] at hloop
    generalize ([w_when, w_then, w_else] : List ByteArray)[j] = ww at e2 hloop
    generalize hWS : ([w_when, w_then, w_else] : List ByteArray).map Value.string = WS at gW e2
    repeat (first | apply s_R | apply o_n | ((first | apply o_p | (refine' o_g rfl rfl ?_ ?_; rotate_left) | apply w_c); (focus simp (disch := first | decide | (try simp only [zz, hz]) <;> omega | fail) only [go_sem, hz, b0, b2, b3, b7, b8, b9, c1, e1, e2, gW] <;> rfl); with_reducible first | apply o_i | apply g_1 | apply g_2 | apply g_3 | apply g_4 | apply c_1 | apply c_2) | apply r_E | apply b_k | apply s_k | apply s_q)
    refine O_call (by simp (disch := first | decide | (try simp only [zz, hz]) <;> omega | fail) only [go_sem, hz, b0, b2, b3, b7, b8, b9, c1, e1, e2, gW] <;> rfl) ?_
    refine C.mono (want_c h1 ww) ?_
    rintro _ σ2 ⟨h2, g2⟩
    have nx2 := g2.next
    have gN2 := (g2.get σ.next (by omega) (by omega)).trans gN
    have gM2 := (g2.get (σ.next + 1) (by omega) (by omega)).trans gM
    have gW2 := (g2.get (σ.next + 2) (by omega) (by omega)).trans gW
    repeat (first | apply s_R | apply o_n | ((first | apply o_p | (refine' o_g rfl rfl ?_ ?_; rotate_left) | apply w_c); (focus simp (disch := first | decide | (try simp only [zz, hz]) <;> omega | fail) only [go_sem, hz, b0, b2, b3, b7, b8, b9] <;> rfl); with_reducible first | apply o_i | apply g_1 | apply g_2 | apply g_3 | apply g_4 | apply c_1 | apply c_2) | apply r_E | apply b_k | apply s_k | apply s_q)
    refine W_regDE mixed (by kernel_rfl) (by kernel_rfl) ?_
    repeat (apply v_x; (focus simp (disch := first | decide | (try simp only [zz, hz]) <;> omega | fail) only [go_sem, hz, b0, b2, b3, gM2] <;> rfl); first | refine vX_n ?_ | refine vX_l ?_ | refine vX_e ?_)
    refine V_call (by simp (disch := first | decide | (try simp only [zz, hz]) <;> omega | fail) only [go_sem, hz, b0, b2, b3, gM2] <;> rfl) ?_
    refine C.mono (hK.or _ _ trivial h2) ?_
    rintro _ σ3 ⟨⟨t3, l3, rfl, hl3, ho3⟩, h3, g3⟩
    have nx3 := g3.next
    have gN3 := (g3.get σ.next (by omega) (by omega)).trans gN2
    have gM3 := (g3.get (σ.next + 1) (by omega) (by omega)).trans gM2
    have gW3 := (g3.get (σ.next + 2) (by omega) (by omega)).trans gW2
    have hG2 : GrowO σ2 (σ.next + 3) 37 6 (.slice va vl vc) vs ps := hG.imp id (fun h => h.gr g2 (by omega))
    obtain ⟨v', σ', hap, hG', hOw, hKz⟩ := growO_app us_34 io_37 rfl (by decide) (N := σ.next + 3) (r := r) (by omega) (by omega) hG2 g3 ⟨t3, l3, rfl, hl3, ho3⟩ (by omega) (by omega)
    have gN4 := (hKz σ.next (by omega) (by rw [gN3])).trans gN3
    have gM4 := (hKz (σ.next + 1) (by omega) (by rw [gM3])).trans gM3
    have gW4 := (hOw.get (σ.next + 2) (by omega) (by omega)).trans gW3
    have gM3p : ∀ X : Blk, (σ3.push X).get (σ.next + 1) = _ := fun X => (push_ne (by omega)).trans gM3
    obtain ⟨va', vl', vc', rfl⟩ : ∃ a l c, v' = .slice a l c := by obtain ⟨B, c, _, _, e, _⟩ := hG'; exact ⟨_, _, _, e⟩
    repeat (apply v_x; (focus simp (disch := first | decide | (try simp only [zz, hz]) <;> omega | fail) only [go_sem, hz, b0, b2, b3, hl3, ho3, hap, gM4] <;> rfl); first | refine vX_n ?_ | refine vX_l ?_ | refine vX_e ?_)
    refine V_nil ?_; refine And.intro (owes_by (L := [(1, 0), (1, 4), (1, 5)]) ?_ ?_) ?_; rotate_left 2; (try simp only [Then, Out, JumpL]); rotate_right 2; focus (kernel_rfl)
    · (repeat (refine owe_cons (Owed_op rfl rfl rfl rfl rfl (by simp (disch := first | decide | (try simp only [zz, hz]) <;> omega | fail) only [go_sem, hz, b0, b2, b3, gM2, gM3, gM3p] <;> rfl)) ?_)); exact owe_nil
    have hadd : fastB .add (.int .i64 (j : Int)) (.int .i64 1) = some (.int .i64 ((j + 1 : Nat) : Int)) := by rw [bin_addI (by omega) (by omega)]; rfl
    repeat (first | apply s_R | apply o_n | ((first | apply o_p | (refine' o_g rfl rfl ?_ ?_; rotate_left) | apply w_c); (focus simp (disch := first | decide | (try simp only [zz, hz]) <;> omega | fail) only [go_sem, hz, b0, b2, b3, b7, b8, b9, hadd] <;> rfl); with_reducible first | apply o_i | apply g_1 | apply g_2 | apply g_3 | apply g_4 | apply c_1 | apply c_2) | apply r_E | apply b_k | apply s_k | apply s_q)
    refine ⟨3 - (j + 1), by omega, j + 1, (K.or (wantS ww s1).2).2, ps ++ [(K.or (wantS ww s1).2).1], vs ++ [.agg ⟨l3⟩], .slice va' vl' vc', by omega, rfl, by simp [hvl], (by simp (disch := first | decide | (try simp only [zz, hz]) <;> omega | fail) only [go_sem, hz] <;> rfl), (by simp (disch := first | decide | (try simp only [zz, hz]) <;> omega | fail) only [go_sem, hz, b0] <;> rfl), (by simp (disch := first | decide | (try simp only [zz, hz]) <;> omega | fail) only [go_sem, hz, b2] <;> rfl), (by simp (disch := first | decide | (try simp only [zz, hz]) <;> omega | fail) only [go_sem, hz, b3] <;> rfl), (by simp (disch := first | decide | (try simp only [zz, hz]) <;> omega | fail) only [go_sem, hz, b7] <;> rfl), (by simp (disch := first | decide | (try simp only [zz, hz]) <;> omega | fail) only [go_sem, hz, b8] <;> rfl), (by simp (disch := first | decide | (try simp only [zz, hz]) <;> omega | fail) only [go_sem, hz] <;> rfl), (h3.ow hOw (by omega) (by omega)).ow ((Ow.refl (σ.next + 1) σ').set (Nat.le_refl _) _) (by omega) (by omega), ?_, ?_, ?_, ?_, ?_, ⟨_, _, _, rfl⟩, .inr ?_, ?_⟩
    · exact ((g1.trans g2).trans g3).ow ((hOw.mono (by omega)).set (by omega) _)
    · have := hOw.next
      rw [set_next]
      omega
    · exact (set_ne (by omega)).trans gN4
    · exact set_eq
    · exact (set_ne (by omega)).trans gW4
    · exact hG'.gr (r := σ.next + 1) ((Gr.refl _ _).set (.inr rfl) _) (by omega)
    · exact hloop
  · have c1 : decide ((j : Int) < 3) = false := by simp; omega
    repeat (first | apply s_R | apply o_n | ((first | apply o_p | (refine' o_g rfl rfl ?_ ?_; rotate_left) | apply w_c); (focus simp (disch := first | decide | (try simp only [zz, hz]) <;> omega | fail) only [go_sem, hz, b0, b2, b3, b7, b8, b9, c1] <;> rfl); with_reducible first | apply o_i | apply g_1 | apply g_2 | apply g_3 | apply g_4 | apply c_1 | apply c_2) | apply r_E | apply b_k | apply s_k | apply s_q)
    refine W_exit ?_; simp only [Then, Out, JumpL, reduceIte, Nat.reduceEqDiff]
    repeat (first | apply s_R | apply o_n | ((first | apply o_p | (refine' o_g rfl rfl ?_ ?_; rotate_left) | apply w_c); (focus simp (disch := first | decide | (try simp only [zz, hz]) <;> omega | fail) only [go_sem, hz, b0, b2, b3, b7, b8, b9, c1] <;> rfl); with_reducible first | apply o_i | apply g_1 | apply g_2 | apply g_3 | apply g_4 | apply c_1 | apply c_2) | apply r_E | apply b_k | apply s_k | apply s_q)
    refine O_call (by simp (disch := first | decide | (try simp only [zz, hz]) <;> omega | fail) only [go_sem, hz, b0, b2, b3, b7, b8, b9, c1] <;> rfl) ?_
    refine C.mono (want_c h1 w_end) ?_
    rintro _ σ2 ⟨h2, g2⟩
    have nx2 := g2.next
    have gN2 := (g2.get σ.next (by omega) (by omega)).trans gN
    have gM2 := (g2.get (σ.next + 1) (by omega) (by omega)).trans gM
    repeat (first | apply s_R | apply o_n | ((first | apply o_p | (refine' o_g rfl rfl ?_ ?_; rotate_left) | apply w_c); (focus simp (disch := first | decide | (try simp only [zz, hz]) <;> omega | fail) only [go_sem, hz, b0, b2, b3, gN2, gM2] <;> rfl); with_reducible first | apply o_i | apply g_1 | apply g_2 | apply g_3 | apply g_4 | apply c_1 | apply c_2) | apply r_E | apply b_k | apply s_k | apply s_q)
    refine W_ret ?_; (try simp only [Then, Out, Jump, JumpL]); refine ret_mk (by simp (disch := first | decide | (try simp only [zz, hz]) <;> omega | fail) only [go_sem, hz, b2, gN2] <;> rfl) ?_; (try simp only [resultA])
    have hj3 : j = 3 := by omega
    subst hj3
    have hl : chLoop K [w_when, w_then, w_else] [] s = (ps, s1) := hloop.symm
    rw [choice_eq, hl]
    have hG2 : GrowO σ2 (σ.next + 3) 37 6 (.slice va vl vc) vs ps := hG.imp id (fun h => h.gr g2 (by omega))
    have hrd : Rd σ2 (fun k => σ.next + 3 ≤ k) (sl 6 ps) (.slice va vl vc) := by
      rcases hG2 with ⟨rfl, rfl, e⟩ | hG2
      · rw [e]; exact rd_nil _ _ _
      · exact hG2.rd (by decide)
    exact post_fin ((Ow.refl _ _).set (Nat.le_refl _) _) (g1.trans g2) h2 hlr hlb (te_mkE ((hrd.ks ((Ks.refl σ2).set (.inr (by rw [gN2])) _)).keep (fun _ _ _ _ => rfl) (Nat.le_refl _) (fun k hk _ => by have := hk; omega)) (rd_nil _ _ _))
end
end Go.Proofs.YtckidlbmoalomaaGreatDoor


namespace Go.Proofs.YtckidlbmoalomaaGreatDoor
open Go.RowKit
set_option maxRecDepth 10000
set_option linter.unusedSimpArgs false
set_option linter.unusedVariables false

section
variable {r b : Nat} {T : List Tk}
theorem kind_eq {α : Type} (k : Int) (f g : SM α) (s : Sy) : (takeKindS k >>= fun b => if b = true then f else g) s = if (takeKindS k s).1 = true then f (takeKindS k s).2 else g (takeKindS k s).2 := by
  show (if (takeKindS k s).1 = true then f else g) (takeKindS k s).2 = _
  split <;> rfl
theorem prim_c (hW : WordOK) {K : Knot} {d : Int} (hK : KOK K r b T d) : Reads (fun _ => True) 6 r b T d 127 [.pointer (some ⟨r, 0, none⟩)] (primS K) := by
  intro σ s he h
  have hlr := h.lr
  have hlb := h.lb
  obtain ⟨i, h1, hl1, ht1⟩ := h.head
  have hr := h1.get
  have hb := h1.toks
  have hi := h1.li
  have e0 : elemAtA Tryz.prog 72 ⟨b, 4 * i, none⟩ (T.length - i) 0 = some (.pointer (some ⟨b, 4 * i, none⟩)) := elem0 sz_72 (by omega)
  have hd := tok_at ht1
  clear h1 hl1 ht1
  refine C_enter rfl Tryz.func127 rfl Tryz.ntmps127 Tryz.results127 (Nat.le_of_ble_eq_true rfl) ?_; intro A hz hA; have a0 := hA 0 _ rfl; clear hA
  repeat (first | apply s_R | apply o_n | ((first | apply o_p | (refine' o_g rfl rfl ?_ ?_; rotate_left) | apply w_c); (focus simp (disch := first | decide | (try simp only [zz, hz]) <;> omega | fail) only [go_sem, hz, a0, hr, hb, hd, e0, tkCells] <;> rfl); with_reducible first | apply o_i | apply g_1 | apply g_2 | apply g_3 | apply g_4 | apply c_1 | apply c_2) | apply r_E | apply b_k | apply s_k | apply s_q)
  have k0 : ∀ B1 B2 B3 : Blk, Kp σ (((σ.push B1).push B2).set (σ.next + 1) B3) := fun _ _ _ => ((((Kp.refl σ).push _).push _).set (by first | omega | (simp only [push_next, set_next]; first | done | omega)) _)
  have gN0 : ∀ B1 B2 B3 : Blk, (((σ.push B1).push B2).set (σ.next + 1) B3).get σ.next = B1 := fun _ _ _ => by rw [set_ne (by omega), push_ne (by first | omega | (simp only [push_next, set_next]; first | done | omega)), push_eq]
  have gM0 : ∀ B1 B2 B3 : Blk, (((σ.push B1).push B2).set (σ.next + 1) B3).get (σ.next + 1) = B3 := fun _ _ _ => set_eq
  unfold primS
  rw [SM.bind_run]
  simp only [headM]
  refine O_call (by simp (disch := first | decide | (try simp only [zz, hz]) <;> omega | fail) only [go_sem, hz, a0] <;> rfl) ?_
  refine C.mono (takeKind_c (h.kp (k0 _ _ _)) (k := 2) (by decide)) ?_
  rintro _ σ1 ⟨rfl, h1, g1⟩
  have nx1 := g1.next
  simp only [push_next, set_next] at nx1
  have gN1 := (g1.get σ.next (by first | omega | (simp only [push_next, set_next]; first | done | omega)) (by omega)).trans (gN0 _ _ _)
  have gM1 := (g1.get (σ.next + 1) (by first | omega | (simp only [push_next, set_next]; first | done | omega)) (by omega)).trans (gM0 _ _ _)
  replace g1 := ((k0 _ _ _).gr r).trans g1
  rw [kind_eq]
  generalize (takeKindS 2 s).2 = s1 at h1 ⊢
  cases c1 : (takeKindS 2 s).1 with
  | true =>
    repeat (first | apply s_R | apply o_n | ((first | apply o_p | (refine' o_g rfl rfl ?_ ?_; rotate_left) | apply w_c); (focus simp (disch := first | decide | (try simp only [zz, hz]) <;> omega | fail) only [go_sem, hz, a0, gN1, gM1] <;> rfl); with_reducible first | apply o_i | apply g_1 | apply g_2 | apply g_3 | apply g_4 | apply c_1 | apply c_2) | apply r_E | apply b_k | apply s_k | apply s_q)
    refine W_ret ?_; (try simp only [Then, Out, Jump, JumpL]); refine ret_mk (by simp (disch := first | decide | (try simp only [zz, hz]) <;> omega | fail) only [go_sem, hz, gN1] <;> rfl) ?_; (try simp only [resultA])
    exact post_fin ((Ow.refl _ _).set (Nat.le_refl _) _) g1 h1 hlr hlb (te_mkE (rd_nil _ _ _) (rd_nil _ _ _))
  | false =>
  repeat (first | apply s_R | apply o_n | ((first | apply o_p | (refine' o_g rfl rfl ?_ ?_; rotate_left) | apply w_c); (focus simp (disch := first | decide | (try simp only [zz, hz]) <;> omega | fail) only [go_sem, hz, a0] <;> rfl); with_reducible first | apply o_i | apply g_1 | apply g_2 | apply g_3 | apply g_4 | apply c_1 | apply c_2) | apply r_E | apply b_k | apply s_k | apply s_q)
  refine O_call (by simp (disch := first | decide | (try simp only [zz, hz]) <;> omega | fail) only [go_sem, hz, a0] <;> rfl) ?_
  refine C.mono (takeKind_c h1 (k := 3) (by decide)) ?_
  rintro _ σ2 ⟨rfl, h2, g2⟩
  have nx2 := g2.next
  have gN2 := (g2.get σ.next (by omega) (by omega)).trans gN1
  have gM2 := (g2.get (σ.next + 1) (by omega) (by omega)).trans gM1
  replace g2 := g1.trans g2
  rw [if_neg (by simp), kind_eq]
  generalize (takeKindS 3 s1).2 = s2 at h2 ⊢
  cases c2 : (takeKindS 3 s1).1 with
  | true =>
    repeat (first | apply s_R | apply o_n | ((first | apply o_p | (refine' o_g rfl rfl ?_ ?_; rotate_left) | apply w_c); (focus simp (disch := first | decide | (try simp only [zz, hz]) <;> omega | fail) only [go_sem, hz, a0, gN2, gM2] <;> rfl); with_reducible first | apply o_i | apply g_1 | apply g_2 | apply g_3 | apply g_4 | apply c_1 | apply c_2) | apply r_E | apply b_k | apply s_k | apply s_q)
    refine W_ret ?_; (try simp only [Then, Out, Jump, JumpL]); refine ret_mk (by simp (disch := first | decide | (try simp only [zz, hz]) <;> omega | fail) only [go_sem, hz, gN2] <;> rfl) ?_; (try simp only [resultA])
    exact post_fin ((Ow.refl _ _).set (Nat.le_refl _) _) g2 h2 hlr hlb (te_mkE (rd_nil _ _ _) (rd_nil _ _ _))
  | false =>
  have lt : σ.next < σ2.next := by omega
  clear g1 gN1 gM1 h1 nx1 gM2
  repeat (first | apply s_R | apply o_n | ((first | apply o_p | (refine' o_g rfl rfl ?_ ?_; rotate_left) | apply w_c); (focus simp (disch := first | decide | (try simp only [zz, hz]) <;> omega | fail) only [go_sem, hz, a0] <;> rfl); with_reducible first | apply o_i | apply g_1 | apply g_2 | apply g_3 | apply g_4 | apply c_1 | apply c_2) | apply r_E | apply b_k | apply s_k | apply s_q)
  refine O_call (by simp (disch := first | decide | (try simp only [zz, hz]) <;> omega | fail) only [go_sem, hz, a0] <;> rfl) ?_
  refine C.mono (take_c h2 w_null) ?_
  rintro _ σ3 ⟨rfl, h3, g3⟩
  have nx := g3.next
  have gN3 := (g3.get σ.next (by omega) (by omega)).trans gN2
  replace lt : σ.next < σ3.next := by omega
  replace g3 := g2.trans g3
  rw [if_neg (by simp), take_eq]
  generalize (takeS w_null s2).2 = s3 at h3 ⊢
  cases cc : (takeS w_null s2).1 with
  | true =>
    repeat (first | apply s_R | apply o_n | ((first | apply o_p | (refine' o_g rfl rfl ?_ ?_; rotate_left) | apply w_c); (focus simp (disch := first | decide | (try simp only [zz, hz]) <;> omega | fail) only [go_sem, hz, a0, gN3] <;> rfl); with_reducible first | apply o_i | apply g_1 | apply g_2 | apply g_3 | apply g_4 | apply c_1 | apply c_2) | apply r_E | apply b_k | apply s_k | apply s_q)
    refine W_ret ?_; (try simp only [Then, Out, Jump, JumpL]); refine ret_mk (by simp (disch := first | decide | (try simp only [zz, hz]) <;> omega | fail) only [go_sem, hz, gN3] <;> rfl) ?_; (try simp only [resultA])
    exact post_fin ((Ow.refl _ _).set (Nat.le_refl _) _) g3 h3 hlr hlb (te_mkE (rd_nil _ _ _) (rd_nil _ _ _))
  | false =>
  repeat (first | apply s_R | apply o_n | ((first | apply o_p | (refine' o_g rfl rfl ?_ ?_; rotate_left) | apply w_c); (focus simp (disch := first | decide | (try simp only [zz, hz]) <;> omega | fail) only [go_sem, hz, a0] <;> rfl); with_reducible first | apply o_i | apply g_1 | apply g_2 | apply g_3 | apply g_4 | apply c_1 | apply c_2) | apply r_E | apply b_k | apply s_k | apply s_q)
  refine O_call (by simp (disch := first | decide | (try simp only [zz, hz]) <;> omega | fail) only [go_sem, hz, a0] <;> rfl) ?_
  refine C.mono (take_c h3 w_true) ?_
  rintro _ σ4 ⟨rfl, h4, g4⟩
  have nx := g4.next
  have gN4 := (g4.get σ.next (by omega) (by omega)).trans gN3
  replace lt : σ.next < σ4.next := by omega
  replace g4 := g3.trans g4
  rw [if_neg (by simp), take_eq]
  generalize (takeS w_true s3).2 = s4 at h4 ⊢
  cases cc : (takeS w_true s3).1 with
  | true =>
    repeat (first | apply s_R | apply o_n | ((first | apply o_p | (refine' o_g rfl rfl ?_ ?_; rotate_left) | apply w_c); (focus simp (disch := first | decide | (try simp only [zz, hz]) <;> omega | fail) only [go_sem, hz, a0, gN4] <;> rfl); with_reducible first | apply o_i | apply g_1 | apply g_2 | apply g_3 | apply g_4 | apply c_1 | apply c_2) | apply r_E | apply b_k | apply s_k | apply s_q)
    refine W_ret ?_; (try simp only [Then, Out, Jump, JumpL]); refine ret_mk (by simp (disch := first | decide | (try simp only [zz, hz]) <;> omega | fail) only [go_sem, hz, gN4] <;> rfl) ?_; (try simp only [resultA])
    exact post_fin ((Ow.refl _ _).set (Nat.le_refl _) _) g4 h4 hlr hlb (te_mkE (rd_nil _ _ _) (rd_nil _ _ _))
  | false =>
  repeat (first | apply s_R | apply o_n | ((first | apply o_p | (refine' o_g rfl rfl ?_ ?_; rotate_left) | apply w_c); (focus simp (disch := first | decide | (try simp only [zz, hz]) <;> omega | fail) only [go_sem, hz, a0] <;> rfl); with_reducible first | apply o_i | apply g_1 | apply g_2 | apply g_3 | apply g_4 | apply c_1 | apply c_2) | apply r_E | apply b_k | apply s_k | apply s_q)
  refine O_call (by simp (disch := first | decide | (try simp only [zz, hz]) <;> omega | fail) only [go_sem, hz, a0] <;> rfl) ?_
  refine C.mono (take_c h4 w_false) ?_
  rintro _ σ5 ⟨rfl, h5, g5⟩
  have nx := g5.next
  have gN5 := (g5.get σ.next (by omega) (by omega)).trans gN4
  replace lt : σ.next < σ5.next := by omega
  replace g5 := g4.trans g5
  rw [if_neg (by simp), take_eq]
  generalize (takeS w_false s4).2 = s5 at h5 ⊢
  cases cc : (takeS w_false s4).1 with
  | true =>
    repeat (first | apply s_R | apply o_n | ((first | apply o_p | (refine' o_g rfl rfl ?_ ?_; rotate_left) | apply w_c); (focus simp (disch := first | decide | (try simp only [zz, hz]) <;> omega | fail) only [go_sem, hz, a0, gN5] <;> rfl); with_reducible first | apply o_i | apply g_1 | apply g_2 | apply g_3 | apply g_4 | apply c_1 | apply c_2) | apply r_E | apply b_k | apply s_k | apply s_q)
    refine W_ret ?_; (try simp only [Then, Out, Jump, JumpL]); refine ret_mk (by simp (disch := first | decide | (try simp only [zz, hz]) <;> omega | fail) only [go_sem, hz, gN5] <;> rfl) ?_; (try simp only [resultA])
    exact post_fin ((Ow.refl _ _).set (Nat.le_refl _) _) g5 h5 hlr hlb (te_mkE (rd_nil _ _ _) (rd_nil _ _ _))
  | false =>
  repeat (first | apply s_R | apply o_n | ((first | apply o_p | (refine' o_g rfl rfl ?_ ?_; rotate_left) | apply w_c); (focus simp (disch := first | decide | (try simp only [zz, hz]) <;> omega | fail) only [go_sem, hz, a0] <;> rfl); with_reducible first | apply o_i | apply g_1 | apply g_2 | apply g_3 | apply g_4 | apply c_1 | apply c_2) | apply r_E | apply b_k | apply s_k | apply s_q)
  refine O_call (by simp (disch := first | decide | (try simp only [zz, hz]) <;> omega | fail) only [go_sem, hz, a0] <;> rfl) ?_
  refine C.mono (take_c h5 m_colon) ?_
  rintro _ σ6 ⟨rfl, h6, g6⟩
  have nx := g6.next
  have gN6 := (g6.get σ.next (by omega) (by omega)).trans gN5
  replace lt : σ.next < σ6.next := by omega
  replace g6 := g5.trans g6
  rw [if_neg (by simp), take_eq]
  generalize (takeS m_colon s5).2 = s6 at h6 ⊢
  cases cc : (takeS m_colon s5).1 with
  | true =>
    repeat (first | apply s_R | apply o_n | ((first | apply o_p | (refine' o_g rfl rfl ?_ ?_; rotate_left) | apply w_c); (focus simp (disch := first | decide | (try simp only [zz, hz]) <;> omega | fail) only [go_sem, hz, a0, gN6] <;> rfl); with_reducible first | apply o_i | apply g_1 | apply g_2 | apply g_3 | apply g_4 | apply c_1 | apply c_2) | apply r_E | apply b_k | apply s_k | apply s_q)
    refine O_call (by simp (disch := first | decide | (try simp only [zz, hz]) <;> omega | fail) only [go_sem, hz, a0] <;> rfl) ?_
    refine C.mono (name_c hW h6) ?_
    rintro _ σ7 ⟨rfl, h7, g7⟩
    have gN7 := (g7.get σ.next (by omega) (by omega)).trans gN6
    repeat (first | apply s_R | apply o_n | ((first | apply o_p | (refine' o_g rfl rfl ?_ ?_; rotate_left) | apply w_c); (focus simp (disch := first | decide | (try simp only [zz, hz]) <;> omega | fail) only [go_sem, hz, a0, gN7] <;> rfl); with_reducible first | apply o_i | apply g_1 | apply g_2 | apply g_3 | apply g_4 | apply c_1 | apply c_2) | apply r_E | apply b_k | apply s_k | apply s_q)
    refine W_ret ?_; (try simp only [Then, Out, Jump, JumpL]); refine ret_mk (by simp (disch := first | decide | (try simp only [zz, hz]) <;> omega | fail) only [go_sem, hz, gN7] <;> rfl) ?_; (try simp only [resultA])
    exact post_fin ((Ow.refl _ _).set (Nat.le_refl _) _) (g6.trans g7) h7 hlr hlb (te_mkE (rd_nil _ _ _) (rd_nil _ _ _))
  | false =>
  repeat (first | apply s_R | apply o_n | ((first | apply o_p | (refine' o_g rfl rfl ?_ ?_; rotate_left) | apply w_c); (focus simp (disch := first | decide | (try simp only [zz, hz]) <;> omega | fail) only [go_sem, hz, a0] <;> rfl); with_reducible first | apply o_i | apply g_1 | apply g_2 | apply g_3 | apply g_4 | apply c_1 | apply c_2) | apply r_E | apply b_k | apply s_k | apply s_q)
  refine O_call (by simp (disch := first | decide | (try simp only [zz, hz]) <;> omega | fail) only [go_sem, hz, a0] <;> rfl) ?_
  refine C.mono (take_c h6 w_case) ?_
  rintro _ σ7 ⟨rfl, h7, g7⟩
  have nx := g7.next
  have gN7 := (g7.get σ.next (by omega) (by omega)).trans gN6
  replace lt : σ.next < σ7.next := by omega
  replace g7 := g6.trans g7
  rw [if_neg (by simp), take_eq]
  generalize (takeS w_case s6).2 = s7 at h7 ⊢
  cases cc : (takeS w_case s6).1 with
  | true =>
    repeat (first | apply s_R | apply o_n | ((first | apply o_p | (refine' o_g rfl rfl ?_ ?_; rotate_left) | apply w_c); (focus simp (disch := first | decide | (try simp only [zz, hz]) <;> omega | fail) only [go_sem, hz, a0, gN7] <;> rfl); with_reducible first | apply o_i | apply g_1 | apply g_2 | apply g_3 | apply g_4 | apply c_1 | apply c_2) | apply r_E | apply b_k | apply s_k | apply s_q)
    refine O_call (by simp (disch := first | decide | (try simp only [zz, hz]) <;> omega | fail) only [go_sem, hz, a0] <;> rfl) ?_
    refine C.mono (choice_c hK _ _ trivial h7) ?_
    rintro _ τ ⟨⟨t2, l, rfl, hl, ho⟩, h2, g2⟩
    have nx2 := g2.next
    have gN := (g2.get σ.next (by omega) (by omega)).trans gN7
    repeat (first | apply s_R | apply o_n | ((first | apply o_p | (refine' o_g rfl rfl ?_ ?_; rotate_left) | apply w_c); (focus simp (disch := first | decide | (try simp only [zz, hz]) <;> omega | fail) only [go_sem, hz, a0, hl, ho, gN] <;> rfl); with_reducible first | apply o_i | apply g_1 | apply g_2 | apply g_3 | apply g_4 | apply c_1 | apply c_2) | apply r_E | apply b_k | apply s_k | apply s_q)
    refine W_ret ?_; (try simp only [Then, Out, Jump, JumpL]); refine ret_mk (by simp (disch := first | decide | (try simp only [zz, hz]) <;> omega | fail) only [go_sem, hz, hl] <;> rfl) ?_; (try simp only [resultA])
    exact post_fin ((Ow.refl _ _).set (Nat.le_refl _) _) (g7.trans g2) h2 hlr hlb ((TE.ks ⟨t2, l, rfl, hl, ho⟩ ((Ks.refl τ).set (.inr (by rw [gN])) _)).lo (fun k hk => by have := hk; omega))
  | false =>
  repeat (first | apply s_R | apply o_n | ((first | apply o_p | (refine' o_g rfl rfl ?_ ?_; rotate_left) | apply w_c); (focus simp (disch := first | decide | (try simp only [zz, hz]) <;> omega | fail) only [go_sem, hz, a0] <;> rfl); with_reducible first | apply o_i | apply g_1 | apply g_2 | apply g_3 | apply g_4 | apply c_1 | apply c_2) | apply r_E | apply b_k | apply s_k | apply s_q)
  refine O_call (by simp (disch := first | decide | (try simp only [zz, hz]) <;> omega | fail) only [go_sem, hz, a0] <;> rfl) ?_
  refine C.mono (take_c h7 w_exists) ?_
  rintro _ σ8 ⟨rfl, h8, g8⟩
  have nx := g8.next
  have gN8 := (g8.get σ.next (by omega) (by omega)).trans gN7
  replace lt : σ.next < σ8.next := by omega
  replace g8 := g7.trans g8
  rw [if_neg (by simp), take_eq]
  generalize (takeS w_exists s7).2 = s8 at h8 ⊢
  cases cc : (takeS w_exists s7).1 with
  | true =>
    repeat (first | apply s_R | apply o_n | ((first | apply o_p | (refine' o_g rfl rfl ?_ ?_; rotate_left) | apply w_c); (focus simp (disch := first | decide | (try simp only [zz, hz]) <;> omega | fail) only [go_sem, hz, a0, gN8] <;> rfl); with_reducible first | apply o_i | apply g_1 | apply g_2 | apply g_3 | apply g_4 | apply c_1 | apply c_2) | apply r_E | apply b_k | apply s_k | apply s_q)
    refine O_call (by simp (disch := first | decide | (try simp only [zz, hz]) <;> omega | fail) only [go_sem, hz, a0] <;> rfl) ?_
    refine C.mono (inbQ_c (fs := [.pointer (some ⟨r, 0, none⟩)]) (cs := []) stable_true hK.parts _ _ trivial h8) ?_
    rintro _ τ ⟨⟨t2, l, rfl, hl, ho⟩, h2, g2⟩
    have nx2 := g2.next
    have gN := (g2.get σ.next (by omega) (by omega)).trans gN8
    repeat (first | apply s_R | apply o_n | ((first | apply o_p | (refine' o_g rfl rfl ?_ ?_; rotate_left) | apply w_c); (focus simp (disch := first | decide | (try simp only [zz, hz]) <;> omega | fail) only [go_sem, hz, a0, hl, ho, gN] <;> rfl); with_reducible first | apply o_i | apply g_1 | apply g_2 | apply g_3 | apply g_4 | apply c_1 | apply c_2) | apply r_E | apply b_k | apply s_k | apply s_q)
    refine W_ret ?_; (try simp only [Then, Out, Jump, JumpL]); refine ret_mk (by simp (disch := first | decide | (try simp only [zz, hz]) <;> omega | fail) only [go_sem, hz, gN, hl] <;> rfl) ?_; (try simp only [resultA])
    exact post_fin (((Ow.refl _ _).push _).set (Nat.le_refl _) _) (g8.trans g2) h2 hlr hlb (te_mkE (rd_nil _ _ _) (rd_lit1 (e := 44) (z := 1) (by simp (disch := first | decide | (try simp only [zz, hz]) <;> omega | fail) only [go_sem, hz] <;> rfl) (by decide) (by first | omega | (simp only [push_next, set_next]; first | done | omega)) (by first | omega | (simp only [push_next, set_next]; first | done | omega)) ((TE.ks ⟨t2, l, rfl, hl, ho⟩ (((Ks.refl τ).push _).set (.inr (by rw [gN])) _)).lo (fun k hk => by have := hk; omega))))
  | false =>
  repeat (first | apply s_R | apply o_n | ((first | apply o_p | (refine' o_g rfl rfl ?_ ?_; rotate_left) | apply w_c); (focus simp (disch := first | decide | (try simp only [zz, hz]) <;> omega | fail) only [go_sem, hz, a0] <;> rfl); with_reducible first | apply o_i | apply g_1 | apply g_2 | apply g_3 | apply g_4 | apply c_1 | apply c_2) | apply r_E | apply b_k | apply s_k | apply s_q)
  refine O_call (by simp (disch := first | decide | (try simp only [zz, hz]) <;> omega | fail) only [go_sem, hz, a0] <;> rfl) ?_
  refine C.mono (sees_s h8 m_lp) ?_
  rintro _ σ9 ⟨rfl, k9⟩
  have nx9 := k9.next
  have gN9 := (k9.get σ.next (by omega)).trans gN8
  have g9 := g8.kp k9
  rw [if_neg (by simp), sees_eq]
  have h9 := h8.kp k9
  cases c9 : seesB m_lp s8 with
  | true =>
    repeat (first | apply s_R | apply o_n | ((first | apply o_p | (refine' o_g rfl rfl ?_ ?_; rotate_left) | apply w_c); (focus simp (disch := first | decide | (try simp only [zz, hz]) <;> omega | fail) only [go_sem, hz, a0] <;> rfl); with_reducible first | apply o_i | apply g_1 | apply g_2 | apply g_3 | apply g_4 | apply c_1 | apply c_2) | apply r_E | apply b_k | apply s_k | apply s_q)
    refine O_call (by simp (disch := first | decide | (try simp only [zz, hz]) <;> omega | fail) only [go_sem, hz, a0] <;> rfl) ?_
    refine C.mono (inbE_c (fs := [.pointer (some ⟨r, 0, none⟩)]) (cs := []) stable_true (bracketed_c hK) _ _ trivial h9) ?_
    rintro _ τ ⟨⟨t2, l, rfl, hl, ho⟩, h2, g2⟩
    have nx2 := g2.next
    have gN := (g2.get σ.next (by omega) (by omega)).trans gN9
    repeat (first | apply s_R | apply o_n | ((first | apply o_p | (refine' o_g rfl rfl ?_ ?_; rotate_left) | apply w_c); (focus simp (disch := first | decide | (try simp only [zz, hz]) <;> omega | fail) only [go_sem, hz, a0, hl, ho, gN] <;> rfl); with_reducible first | apply o_i | apply g_1 | apply g_2 | apply g_3 | apply g_4 | apply c_1 | apply c_2) | apply r_E | apply b_k | apply s_k | apply s_q)
    refine W_ret ?_; (try simp only [Then, Out, Jump, JumpL]); refine ret_mk (by simp (disch := first | decide | (try simp only [zz, hz]) <;> omega | fail) only [go_sem, hz, hl] <;> rfl) ?_; (try simp only [resultA])
    exact post_fin ((Ow.refl _ _).set (Nat.le_refl _) _) (g9.trans g2) h2 hlr hlb ((TE.ks ⟨t2, l, rfl, hl, ho⟩ ((Ks.refl τ).set (.inr (by rw [gN])) _)).lo (fun k hk => by have := hk; omega))
  | false =>
    repeat (first | apply s_R | apply o_n | ((first | apply o_p | (refine' o_g rfl rfl ?_ ?_; rotate_left) | apply w_c); (focus simp (disch := first | decide | (try simp only [zz, hz]) <;> omega | fail) only [go_sem, hz, a0] <;> rfl); with_reducible first | apply o_i | apply g_1 | apply g_2 | apply g_3 | apply g_4 | apply c_1 | apply c_2) | apply r_E | apply b_k | apply s_k | apply s_q)
    refine O_call (by simp (disch := first | decide | (try simp only [zz, hz]) <;> omega | fail) only [go_sem, hz, a0] <;> rfl) ?_
    refine C.mono (named_c hW hK _ _ trivial h9) ?_
    rintro _ τ ⟨⟨t2, l, rfl, hl, ho⟩, h2, g2⟩
    have nx2 := g2.next
    have gN := (g2.get σ.next (by omega) (by omega)).trans gN9
    repeat (first | apply s_R | apply o_n | ((first | apply o_p | (refine' o_g rfl rfl ?_ ?_; rotate_left) | apply w_c); (focus simp (disch := first | decide | (try simp only [zz, hz]) <;> omega | fail) only [go_sem, hz, a0, hl, ho, gN] <;> rfl); with_reducible first | apply o_i | apply g_1 | apply g_2 | apply g_3 | apply g_4 | apply c_1 | apply c_2) | apply r_E | apply b_k | apply s_k | apply s_q)
    refine W_ret ?_; (try simp only [Then, Out, Jump, JumpL]); refine ret_mk (by simp (disch := first | decide | (try simp only [zz, hz]) <;> omega | fail) only [go_sem, hz, hl] <;> rfl) ?_; (try simp only [resultA])
    exact post_fin ((Ow.refl _ _).set (Nat.le_refl _) _) (g9.trans g2) h2 hlr hlb ((TE.ks ⟨t2, l, rfl, hl, ho⟩ ((Ks.refl τ).set (.inr (by rw [gN])) _)).lo (fun k hk => by have := hk; omega))
end
end Go.Proofs.YtckidlbmoalomaaGreatDoor
