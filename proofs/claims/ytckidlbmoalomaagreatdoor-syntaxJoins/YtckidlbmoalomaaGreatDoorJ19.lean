/- The program's reader: Word and Scan in the reckoning's memory. The program's reader: variables, kinds of statements, blocks. Regions in which two operations that act are not ordered: each order is looked at alone. The program's reader: lists of names; what is assigned. -/
import Derived.Test.YtckidlbmoalomaaGreatDoorJ11
import Derived.Test.YtckidlbmoalomaaGreatDoorJ17
import Derived.Test.YtckidlbmoalomaaGreatDoorJ18
import Derived.Test.YtckidlbmoalomaaGreatDoorJ06


namespace Go.Proofs.YtckidlbmoalomaaGreatDoor
open Go.RowKit Go.Sort

theorem step_grow {ρ : Rn} {σ : AW} {w w' : World} (h : Rel ρ σ w) (hb : Below w.heap.size w w') {B cap : Nat} {b : Blk} (hB : w.heap.size ≤ B)
    (hs : ∀ v ∈ b.cells, Sc σ.dom v) (ho : ∀ ρ', Holds ρ' w' (B, cap) b) : ∃ ρ', ρ' σ.next = (B, cap) ∧ Step ρ σ w ρ' (σ.push b) w' := by
  refine ⟨fun j => if j = σ.next then (B, cap) else ρ j, if_pos rfl, ?_⟩
  have hag : ∀ j, j < σ.next → (if j = σ.next then (B, cap) else ρ j) = ρ j := fun j hj => if_neg (by omega)
  have hold : ∀ i, i < w.heap.size → w'.heap[i]? = w.heap[i]? := fun i hi => hb.block i hi
  have hg : ∀ j, (σ.push b).get j = if j = σ.next then b else σ.get j := fun j => by rw [AW.push, AW.get_up, AW.get_set]
  have hl : ∀ j, (σ.push b).live j → j ≠ σ.next → σ.live j := fun j hj hne => by
    unfold AW.live at *; rw [hg, if_neg hne] at hj; exact hj
  have hd : ∀ j, σ.dom j → (σ.push b).dom j := fun j hj => ⟨Nat.lt_succ_of_lt hj.1, by rw [hg, if_neg (Nat.ne_of_lt hj.1)]; exact hj.2⟩
  have hcame : ∀ j, (σ.push b).live j → w.heap.size ≤ (if j = σ.next then (B, cap) else ρ j).1 ∨ ∃ i, σ.live i ∧ (ρ i).1 = (if j = σ.next then (B, cap) else ρ j).1 := fun j hj => by
    by_cases e : j = σ.next
    · exact .inl (by simp [e]; exact hB)
    · exact .inr ⟨j, hl j hj e, by simp [e]⟩
  refine ⟨⟨fun j hj => ?_, fun j hj => ?_, fun i j hi hj e => ?_, fun j hj v hv => ?_, fun j hj => ?_, h.glob.next hb.size hcame (fun i hi _ => hold i hi)⟩, hag, Nat.le_succ _, fun j hj => ?_, hcame, fun i hi _ => hold i hi, hb.os, hb.tape, hb.output, hb.size⟩
  · by_cases e : j = σ.next
    · rw [hg, if_pos e]
      simp only [if_pos e]
      exact ho _
    · rw [hg, if_neg e]
      simp only [if_neg e]
      have hj' := hl j hj e
      exact (h.blk j hj').keep (hold _ (h.blk j hj').lt) (h.sc j hj') (fun i hi => (hag i hi.1).symm)
  · by_cases e : j = σ.next
    · subst e; exact Nat.lt_succ_self _
    · exact Nat.lt_succ_of_lt (h.lt j (hl j hj e))
  · by_cases e1 : i = σ.next
    · by_cases e2 : j = σ.next
      · rw [e1, e2]
      · have := (h.blk j (hl j hj e2)).lt
        simp only [if_pos e1, if_neg e2] at e
        omega
    · by_cases e2 : j = σ.next
      · have := (h.blk i (hl i hi e1)).lt
        simp only [if_neg e1, if_pos e2] at e
        omega
      · simp only [if_neg e1, if_neg e2] at e
        exact h.inj i j (hl i hi e1) (hl j hj e2) e
  · rw [hg] at hv
    by_cases e : j = σ.next
    · rw [if_pos e] at hv
      exact (hs v hv).mono hd
    · rw [if_neg e] at hv
      exact (h.sc j (hl j hj e) v hv).mono hd
  · rw [hg, if_neg (by have : σ.next + 1 ≤ j := hj; omega)]
    exact h.fit j (by have : σ.next + 1 ≤ j := hj; omega)
  · rw [hg, if_neg (Nat.ne_of_lt hj)]
theorem enters {g : Nat} {fn : Func} (hf : Tryz.prog.funcs[g]? = some fn) (hN : (fn.name == "runtime.NumGoroutine") = false) (hb : fn.body.isSome = true) (args : Array Value) (w : World) : (callFunc g args).run Tryz.prog w = .ok (.enter g args) w := by
  unfold callFunc
  have h2 : fn.body.isNone = false := by cases hq : fn.body with | none => rw [hq] at hb; cases hb | some c => rfl
  simp only [Sem.run_bind, run_program, Result.andThen_ok, hf, hN, h2, Bool.false_eq_true, if_false, Sem.run_pure]
theorem word_all (w : World) (s : ByteArray) : Calls Tryz.prog 85 #[.string s] w fun e w' => e = .returned (.bool (wordB s)) ∧ Below w.heap.size w w' := by
  cases hw : wordB s
  · exact word_miss w s fun L hL => by
      rw [beq_eq_false_iff_ne]
      intro e
      have := (wordB_iff s).2 (by rw [e]; exact hL)
      rw [hw] at this
      cases this
  · exact word_hit w s _ rfl ((wordB_iff s).1 hw)
theorem word_c : WordOK := by
  intro σ x
  refine ⟨_, _, ⟨fun args w => enters Tryz.func85 rfl rfl args w, fun ρ w hR _ => ?_⟩, rfl, rfl⟩
  refine Calls.mono (word_all w x) ?_
  rintro e w' ⟨rfl, hb⟩
  exact ⟨ρ, rfl, step_below hR hb, (flatB_fl (v := .bool (wordB x)) rfl).sc _⟩
theorem scanF_last : ∀ (f : Nat) (l : List UInt8) (o k : Nat), (scanF f l o k).2.2 = 0 → k ≤ 6001 → (∃ T e, (scanF f l o k).1 = T ++ [((0, ⟨#[]⟩, 0, e) : Tk)]) ∧ (scanF f l o k).1.length + k ≤ 6001
  | 0, _, _, _, h, _ => by simp [scanF] at h
  | f + 1, [], o, k, h, hk => by
    unfold scanF at h ⊢
    split at h
    · simp at h
    · rename_i h6
      rw [if_neg h6]
      exact ⟨⟨[], (o : Int), rfl⟩, by simp; omega⟩
  | f + 1, c :: r, o, k, h, hk => by
    unfold scanF at h ⊢
    split at h
    · rename_i hb
      rw [if_pos hb]
      exact scanF_last f r (o + 1) k h hk
    · rename_i hb
      rw [if_neg hb]
      split at h
      · rename_i hm
        rw [if_pos hm]
        exact scanF_last f _ _ k h hk
      · rename_i hm
        rw [if_neg hm]
        split at h
        · simp at h
        · rename_i kind t n len e
          split at h
          · simp at h
          · rename_i h6
            rw [if_neg h6]
            by_cases h0 : (scanF f ((c :: r).drop len) (o + len) (k + 1)).2.2 = 0
            · obtain ⟨⟨T, e', h1⟩, h2⟩ := scanF_last f _ _ (k + 1) h0 (by omega)
              unfold aheadT
              rw [if_pos h0, h1]
              rw [h1] at h2
              refine ⟨⟨_ :: T, e', rfl⟩, ?_⟩
              simp only [List.length_append, List.length_cons, List.length_nil] at h2 ⊢
              omega
            · unfold aheadT at h
              rw [if_neg h0] at h
              exact absurd h h0
theorem scanF_bad : ∀ (f : Nat) (l : List UInt8) (o k : Nat), (scanF f l o k).2.2 ≠ 0 → (scanF f l o k).1 = [] := fun f l o k => (scanF_form f l o k).2
theorem scanS_last (s : ByteArray) (h : (scanS s).2.2 = 0) : (∃ T e, (scanS s).1 = T ++ [((0, ⟨#[]⟩, 0, e) : Tk)]) ∧ (scanS s).1.length ≤ 6001 := by
  unfold scanS at h ⊢
  split at h
  · simp at h
  · rename_i h6
    rw [if_neg h6]
    exact scanF_last _ _ _ 0 h (by omega)
theorem scanS_bad (s : ByteArray) (h : (scanS s).2.2 ≠ 0) : (scanS s).1 = [] := by
  unfold scanS at h ⊢
  split at h
  · rename_i h6
    rw [if_pos h6]
  · rename_i h6
    rw [if_neg h6]
    exact scanF_bad _ _ _ _ h
theorem flat_tk (T : List Tk) : (flatT T).all flat1 = true := by
  induction T with
  | nil => rfl
  | cons t T ih =>
    show ((tkCells t ++ flatT T).all flat1) = true
    rw [List.all_append, ih]
    rfl
theorem gcells_tk (T : List Tk) : gcells encT T = flatT T := rfl
theorem glob_max {ρ : Rn} {σ : AW} {w : World} (hR : Rel ρ σ w) : HasMax w := by
  obtain ⟨_, _, h⟩ := hR.glob rfl
  exact h
theorem scan_c (σ : AW) (s : ByteArray) (hs : s.size ≤ 1000000) : C Tryz.prog 22 [.string s] σ fun v σ' =>
    (((scanS s).2.2 ≠ 0 ∧ v = .tuple ⟨[.slice none 0 0, .int .i64 ((scanS s).2.1 : Int), .int .i64 (scanS s).2.2]⟩ ∧ σ' = σ) ∨
     ((scanS s).2.2 = 0 ∧ v = .tuple ⟨[.slice (some ⟨σ.next, 0, none⟩) (scanS s).1.length 1, .int .i64 ((scanS s).2.1 : Int), .int .i64 (scanS s).2.2]⟩ ∧ σ' = σ.push ⟨2, 72, 4, flatT (scanS s).1⟩)) := by
  by_cases h0 : (scanS s).2.2 = 0
  · refine ⟨_, _, ⟨fun args w => enters Tryz.func22 rfl rfl args w, fun ρ w hR _ => ?_⟩, .inr ⟨h0, rfl, rfl⟩⟩
    refine Calls.mono (scan_own w s hs (.inl (glob_max hR))) ?_
    rintro e w' ⟨v, rfl, ho, _, hb⟩
    obtain ⟨⟨T, e', hT⟩, _⟩ := scanS_last s h0
    rcases ho.2 with ⟨_, hn⟩ | ⟨g, cap, cur, rfl, hg, hc, hle, _, hsz, htk⟩
    · rw [hT] at hn
      simp at hn
    · rw [gcells_tk] at htk
      obtain ⟨ρ', h1, hst⟩ := step_grow (cap := cap) (b := ⟨2, 72, 4, flatT (scanS s).1⟩) hR hb hg (fun v hv => (flat1_fl (List.all_eq_true.1 (flat_tk _) v hv)).sc _) (fun ρ' => by
        show ∃ rest, _
        refine ⟨cur.toList.drop ((scanS s).1.length * 4), ?_, ?_⟩
        · rw [map_fl (flat_tk _), ← htk, List.take_append_drop]
          exact hc
        · show (flatT _).length + _ = cap * 4
          rw [flatT_length, List.length_drop, Array.length_toList, hsz]
          omega)
      refine ⟨ρ', ?_, hst, sc_tuple fun u hu => ?_⟩
      · rw [ren_tuple]
        simp only [List.map_toArray, List.map_cons, List.map_nil, ren_int, ren_slice, renB, capR, h1]
        rfl
      · simp only [List.mem_cons, List.not_mem_nil, or_false] at hu
        rcases hu with rfl | rfl | rfl
        · refine sc_slice ⟨Nat.lt_succ_self _, ?_⟩
          rw [push_eq]
          exact (by decide : (2 : Nat) ≠ 4)
        · exact (flat1_fl rfl).sc _
        · exact (flat1_fl rfl).sc _
  · refine ⟨_, _, ⟨fun args w => enters Tryz.func22 rfl rfl args w, fun ρ w hR _ => ?_⟩, .inl ⟨h0, rfl, rfl⟩⟩
    refine Calls.mono (scan_own w s hs (.inl (glob_max hR))) ?_
    rintro e w' ⟨v, rfl, ho, hv, hb⟩
    have := hv (scanS_bad s h0)
    subst this
    refine ⟨ρ, rfl, step_below hR hb, sc_tuple fun u hu => ?_⟩
    simp only [List.mem_cons, List.not_mem_nil, or_false] at hu
    rcases hu with rfl | rfl | rfl <;> exact (flat1_fl rfl).sc _
end Go.Proofs.YtckidlbmoalomaaGreatDoor


namespace Go.Proofs.YtckidlbmoalomaaGreatDoor
open Go.RowKit
set_option maxRecDepth 10000
set_option linter.unusedSimpArgs false
set_option linter.unusedVariables false

section
variable {r b : Nat} {T : List Tk}
theorem type_eq (s : Sy) : typeS s = match (takeAnyS [w_int, w_bool, w_text] s).1 with
    | some w => (if w = w_int then 2 else if w = w_bool then 1 else 3, (takeAnyS [w_int, w_bool, w_text] s).2)
    | none => (0, (refuseS 10 (takeAnyS [w_int, w_bool, w_text] s).2).2) := by
  show (match (takeAnyS [w_int, w_bool, w_text] s).1 with
    | some w => (pure (if w = w_int then 2 else if w = w_bool then 1 else 3) : SM Int)
    | none => refuseS 10 >>= fun _ => pure 0) (takeAnyS [w_int, w_bool, w_text] s).2 = _
  cases (takeAnyS [w_int, w_bool, w_text] s).1 <;> rfl
theorem type_c {σ : AW} {s : Sy} {d : Int} (h : RdS σ r b T d s) : C Tryz.prog 89 [.pointer (some ⟨r, 0, none⟩)] σ fun v σ' => v = .int .i64 (typeS s).1 ∧ RdS σ' r b T d (typeS s).2 ∧ Gr r σ σ' := by
  have hlr := h.lr
  have hlb := h.lb
  obtain ⟨i1, hi1, hi2, _⟩ := h.head
  have hpos : 0 < s.left.length := by rw [hi2, List.length_drop]; have := hi1.li; omega
  rw [type_eq]
  refine C_enter rfl Tryz.func89 rfl Tryz.ntmps89 Tryz.results89 (Nat.le_of_ble_eq_true rfl) ?_; intro A hz hA; have a0 := hA 0 _ rfl; clear hA
  repeat (first | apply s_R | apply o_n | ((first | apply o_p | (refine' o_g rfl rfl ?_ ?_; rotate_left) | apply w_c); (focus simp (disch := first | decide | (try simp only [zz, hz]) <;> omega | fail) only [go_sem, hz, a0] <;> rfl); with_reducible first | apply o_i | apply g_1 | apply g_2 | apply g_3 | apply g_4 | apply c_1 | apply c_2) | apply r_E | apply b_k | apply s_k | apply s_q)
  refine O_call (by simp (disch := first | decide | (try simp only [zz, hz]) <;> omega | fail) only [go_sem, hz, a0] <;> rfl) ?_
  refine C.mono (takeAny_c (ws := [w_int, w_bool, w_text]) (h.kp ((Kp.refl σ).push _)) (by rw [push_eq]; rfl) (Nat.lt_succ_self _) (Nat.le_of_ble_eq_true rfl)) ?_
  rintro _ σ2 ⟨rfl, h2, g2⟩
  replace g2 := g2.unpush
  cases ho : (takeAnyS [w_int, w_bool, w_text] s).1 with
  | some w =>
    have hw := (takeAny_some hpos ho).1
    simp only [anyV]
    have e1 : decide (w_int = ⟨#[105, 110, 116]⟩) = true := rfl
    have e2 : decide (w_bool = ⟨#[105, 110, 116]⟩) = false := rfl
    have e3 : decide (w_text = ⟨#[105, 110, 116]⟩) = false := rfl
    have e4 : decide (w_bool = ⟨#[98, 111, 111, 108]⟩) = true := rfl
    have e5 : decide (w_text = ⟨#[98, 111, 111, 108]⟩) = false := rfl
    have e6 : decide (w_text = ⟨#[116, 101, 120, 116]⟩) = true := rfl
    simp only [List.mem_cons, List.not_mem_nil, or_false] at hw
    rcases hw with rfl | rfl | rfl
    all_goals
      repeat (first | apply s_R | apply o_n | ((first | apply o_p | (refine' o_g rfl rfl ?_ ?_; rotate_left) | apply w_c); (focus simp (disch := first | decide | (try simp only [zz, hz]) <;> omega | fail) only [go_sem, hz, a0, e1, e2, e3, e4, e5, e6] <;> rfl); with_reducible first | apply o_i | apply g_1 | apply g_2 | apply g_3 | apply g_4 | apply c_1 | apply c_2) | apply r_E | apply b_k | apply s_k | apply s_q)
      refine W_ret ?_; (try simp only [Then, Out, Jump, JumpL]); refine ret_mk (by simp (disch := first | decide | (try simp only [zz, hz]) <;> omega | fail) only [go_sem, hz] <;> rfl) ?_; (try simp only [resultA])
      exact ⟨rfl, h2, g2⟩
  | none =>
    simp only [anyV]
    have e1 : decide ((⟨#[]⟩ : ByteArray) = ⟨#[105, 110, 116]⟩) = false := rfl
    have e2 : decide ((⟨#[]⟩ : ByteArray) = ⟨#[98, 111, 111, 108]⟩) = false := rfl
    have e3 : decide ((⟨#[]⟩ : ByteArray) = ⟨#[116, 101, 120, 116]⟩) = false := rfl
    repeat (first | apply s_R | apply o_n | ((first | apply o_p | (refine' o_g rfl rfl ?_ ?_; rotate_left) | apply w_c); (focus simp (disch := first | decide | (try simp only [zz, hz]) <;> omega | fail) only [go_sem, hz, a0, e1, e2, e3] <;> rfl); with_reducible first | apply o_i | apply g_1 | apply g_2 | apply g_3 | apply g_4 | apply c_1 | apply c_2) | apply r_E | apply b_k | apply s_k | apply s_q)
    refine O_call (by simp (disch := first | decide | (try simp only [zz, hz]) <;> omega | fail) only [go_sem, hz, a0] <;> rfl) ?_
    refine C.mono (refuse_c h2 10) ?_
    rintro _ σ3 ⟨h3, g3⟩
    repeat (first | apply s_R | apply o_n | ((first | apply o_p | (refine' o_g rfl rfl ?_ ?_; rotate_left) | apply w_c); (focus simp (disch := first | decide | (try simp only [zz, hz]) <;> omega | fail) only [go_sem, hz] <;> rfl); with_reducible first | apply o_i | apply g_1 | apply g_2 | apply g_3 | apply g_4 | apply c_1 | apply c_2) | apply r_E | apply b_k | apply s_k | apply s_q)
    refine W_ret ?_; (try simp only [Then, Out, Jump, JumpL]); refine ret_mk (by simp (disch := first | decide | (try simp only [zz, hz]) <;> omega | fail) only [go_sem, hz] <;> rfl) ?_; (try simp only [resultA])
    exact ⟨by first | rfl | trivial, h3, g2.trans g3⟩
theorem te_mkV {σ : AW} {D : Nat → Prop} {s : ByteArray} {t : Int} : TE 2 σ D (.agg ⟨[.string s, .int .i64 t]⟩) (mkV s t) := ⟨rd_agg.2 ⟨_, rfl, _, _, rfl, rfl, _, _, rfl, rfl, rfl⟩, _, rfl, rfl, rfl⟩
theorem variable_c {d : Int} : Reads (fun _ => True) 2 r b T d 53 [.pointer (some ⟨r, 0, none⟩)] variableS := by
  intro σ s he h
  have hlr := h.lr
  have hlb := h.lb
  have e : variableS s = (mkV (nameS s).1 (typeS (nameS s).2).1, (typeS (nameS s).2).2) := rfl
  rw [e]
  refine C_enter rfl Tryz.func53 rfl Tryz.ntmps53 Tryz.results53 (Nat.le_of_ble_eq_true rfl) ?_; intro A hz hA; have a0 := hA 0 _ rfl; clear hA
  repeat (first | apply s_R | apply o_n | ((first | apply o_p | (refine' o_g rfl rfl ?_ ?_; rotate_left) | apply w_c); (focus simp (disch := first | decide | (try simp only [zz, hz]) <;> omega | fail) only [go_sem, hz, a0] <;> rfl); with_reducible first | apply o_i | apply g_1 | apply g_2 | apply g_3 | apply g_4 | apply c_1 | apply c_2) | apply r_E | apply b_k | apply s_k | apply s_q)
  refine O_call (by simp (disch := first | decide | (try simp only [zz, hz]) <;> omega | fail) only [go_sem, hz, a0] <;> rfl) ?_
  refine C.mono (name_c word_c (h.kp ((Kp.refl σ).push _))) ?_
  rintro _ σ1 ⟨rfl, h1, g1⟩
  have nx1 := g1.next
  simp only [push_next] at nx1
  have gN1 := (g1.get σ.next (by first | omega | (simp only [push_next, set_next]; first | done | omega)) (by omega)).trans push_eq
  repeat (first | apply s_R | apply o_n | ((first | apply o_p | (refine' o_g rfl rfl ?_ ?_; rotate_left) | apply w_c); (focus simp (disch := first | decide | (try simp only [zz, hz]) <;> omega | fail) only [go_sem, hz, a0] <;> rfl); with_reducible first | apply o_i | apply g_1 | apply g_2 | apply g_3 | apply g_4 | apply c_1 | apply c_2) | apply r_E | apply b_k | apply s_k | apply s_q)
  refine O_call (by simp (disch := first | decide | (try simp only [zz, hz]) <;> omega | fail) only [go_sem, hz, a0] <;> rfl) ?_
  refine C.mono (type_c h1) ?_
  rintro _ σ2 ⟨rfl, h2, g2⟩
  have nx2 := g2.next
  have gN2 := (g2.get σ.next (by omega) (by omega)).trans gN1
  repeat (first | apply s_R | apply o_n | ((first | apply o_p | (refine' o_g rfl rfl ?_ ?_; rotate_left) | apply w_c); (focus simp (disch := first | decide | (try simp only [zz, hz]) <;> omega | fail) only [go_sem, hz, a0, gN2] <;> rfl); with_reducible first | apply o_i | apply g_1 | apply g_2 | apply g_3 | apply g_4 | apply c_1 | apply c_2) | apply r_E | apply b_k | apply s_k | apply s_q)
  refine W_ret ?_; (try simp only [Then, Out, Jump, JumpL]); refine ret_mk (by simp (disch := first | decide | (try simp only [zz, hz]) <;> omega | fail) only [go_sem, hz] <;> rfl) ?_; (try simp only [resultA])
  exact post_fin ((Ow.refl _ _).set (Nat.le_refl _) _) (g1.unpush.trans g2) h2 hlr hlb te_mkV
theorem decl_c {d : Int} : Reads (fun _ => True) 2 r b T d 49 [.pointer (some ⟨r, 0, none⟩)] declS := by
  intro σ s he h
  have hlr := h.lr
  have hlb := h.lb
  have e : declS s = ((variableS s).1, (wantS m_semi (variableS s).2).2) := rfl
  rw [e]
  refine C_enter rfl Tryz.func49 rfl Tryz.ntmps49 Tryz.results49 (Nat.le_of_ble_eq_true rfl) ?_; intro A hz hA; have a0 := hA 0 _ rfl; clear hA
  repeat (first | apply s_R | apply o_n | ((first | apply o_p | (refine' o_g rfl rfl ?_ ?_; rotate_left) | apply w_c); (focus simp (disch := first | decide | (try simp only [zz, hz]) <;> omega | fail) only [go_sem, hz, a0] <;> rfl); with_reducible first | apply o_i | apply g_1 | apply g_2 | apply g_3 | apply g_4 | apply c_1 | apply c_2) | apply r_E | apply b_k | apply s_k | apply s_q)
  refine O_call (by simp (disch := first | decide | (try simp only [zz, hz]) <;> omega | fail) only [go_sem, hz, a0] <;> rfl) ?_
  refine C.mono (variable_c _ _ trivial (h.kp ((Kp.refl σ).push _))) ?_
  rintro _ σ1 ⟨⟨t1, l1, rfl, hl1, ho1⟩, h1, g1⟩
  have t1 : TE 2 σ1 _ (.agg ⟨l1⟩) _ := ⟨t1, l1, rfl, hl1, ho1⟩
  have nx1 := g1.next
  simp only [push_next] at nx1
  have gN1 := (g1.get σ.next (by first | omega | (simp only [push_next, set_next]; first | done | omega)) (by omega)).trans push_eq
  repeat (first | apply s_R | apply o_n | ((first | apply o_p | (refine' o_g rfl rfl ?_ ?_; rotate_left) | apply w_c); (focus simp (disch := first | decide | (try simp only [zz, hz]) <;> omega | fail) only [go_sem, hz, a0, hl1, ho1] <;> rfl); with_reducible first | apply o_i | apply g_1 | apply g_2 | apply g_3 | apply g_4 | apply c_1 | apply c_2) | apply r_E | apply b_k | apply s_k | apply s_q)
  refine O_call (by simp (disch := first | decide | (try simp only [zz, hz]) <;> omega | fail) only [go_sem, hz, a0] <;> rfl) ?_
  have w1 : ∀ B1 B2 : Blk, Ow σ.next σ1 ((σ1.push B1).set σ1.next B2) := fun _ _ => (((Ow.refl σ.next σ1).push _).set (by omega) _)
  have e1 : ∀ B1 B2 : Blk, Ks σ1 ((σ1.push B1).set σ1.next B2) := fun _ _ => (((Ks.refl σ1).push _).set (.inl (Nat.le_refl _)) _)
  refine C.mono (want_c (h1.ow (w1 _ _) hlr hlb) m_semi) ?_
  rintro _ σ2 ⟨h2, g2⟩
  have nx2 := g2.next
  simp only [push_next, set_next] at nx2
  have gN2 := (g2.get σ.next (by first | omega | (simp only [push_next, set_next]; first | done | omega)) (by omega)).trans ((set_ne (by omega)).trans ((push_ne (by omega)).trans gN1))
  have gM2 := (g2.get σ1.next (by first | omega | (simp only [push_next, set_next]; first | done | omega)) (by omega)).trans set_eq
  have t2 := (t1.ks (e1 _ _)).ks (g2.ks (h1.ow (w1 _ _) hlr hlb).ez)
  repeat (first | apply s_R | apply o_n | ((first | apply o_p | (refine' o_g rfl rfl ?_ ?_; rotate_left) | apply w_c); (focus simp (disch := first | decide | (try simp only [zz, hz]) <;> omega | fail) only [go_sem, hz, a0, gN2, gM2, hl1, ho1] <;> rfl); with_reducible first | apply o_i | apply g_1 | apply g_2 | apply g_3 | apply g_4 | apply c_1 | apply c_2) | apply r_E | apply b_k | apply s_k | apply s_q)
  refine W_ret ?_; (try simp only [Then, Out, Jump, JumpL]); refine ret_mk (by simp (disch := first | decide | (try simp only [zz, hz]) <;> omega | fail) only [go_sem, hz, gN2, hl1] <;> rfl) ?_; (try simp only [resultA])
  exact post_fin ((Ow.refl _ _).set (Nat.le_refl _) _) ((g1.unpush.ow (w1 _ _)).trans g2) h2 hlr hlb ((t2.ks ((Ks.refl σ2).set (.inr (by rw [gN2])) _)).lo (fun k hk => by have := hk; simp only [push_next] at this; omega))
theorem decls_c {d : Int} : ReadsL (fun _ => True) 2 r b T d 26 [.pointer (some ⟨r, 0, none⟩)] declsS := by
  intro σ s he h
  refine C_enter rfl Tryz.func26 rfl Tryz.ntmps26 Tryz.results26 (Nat.le_of_ble_eq_true rfl) ?_; intro A hz hA; have a0 := hA 0 _ rfl; clear hA
  repeat (first | apply s_R | apply o_n | ((first | apply o_p | (refine' o_g rfl rfl ?_ ?_; rotate_left) | apply w_c); (focus simp (disch := first | decide | (try simp only [zz, hz]) <;> omega | fail) only [go_sem, hz, a0] <;> rfl); with_reducible first | apply o_i | apply g_1 | apply g_2 | apply g_3 | apply g_4 | apply c_1 | apply c_2) | apply r_E | apply b_k | apply s_k | apply s_q)
  refine O_call (by simp (disch := first | decide | (try simp only [zz, hz]) <;> omega | fail) only [go_sem, hz, a0] <;> rfl) ?_
  refine C.mono (eachV_c (fs := [.pointer (some ⟨r, 0, none⟩)]) (cs := []) stable_true shr_decl decl_c w_var _ _ trivial h) ?_
  rintro v σ2 hp
  repeat (first | apply s_R | apply o_n | ((first | apply o_p | (refine' o_g rfl rfl ?_ ?_; rotate_left) | apply w_c); (focus simp (disch := first | decide | (try simp only [zz, hz]) <;> omega | fail) only [go_sem, hz] <;> rfl); with_reducible first | apply o_i | apply g_1 | apply g_2 | apply g_3 | apply g_4 | apply c_1 | apply c_2) | apply r_E | apply b_k | apply s_k | apply s_q)
  refine W_ret ?_; (try simp only [Then, Out, Jump, JumpL]); refine ret_mk (by simp (disch := first | decide | (try simp only [zz, hz]) <;> omega | fail) only [go_sem, hz] <;> rfl) ?_; (try simp only [resultA])
  exact hp
def kindOf : List (Bool × Int) → Int
  | [] => 0
  | p :: l => if p.1 = true then p.2 else kindOf l
def hitQ (k : Int) : List (Bool × Int) → Prop → Prop
  | [], c => c ∧ k = 0
  | p :: l, c => ((c ∧ p.1 = true) ∧ k = p.2) ∨ hitQ k l (c ∧ p.1 = false)
theorem hit_all : ∀ (l : List (Bool × Int)) (c : Prop), c → hitQ (kindOf l) l c
  | [], _, h => ⟨h, rfl⟩
  | p :: l, c, h => by
    unfold kindOf
    cases e : p.1
    · exact .inr (hit_all l _ ⟨h, e⟩)
    · exact .inl ⟨⟨h, e⟩, rfl⟩
set_option maxHeartbeats 6400000 in
theorem kindN_c (σ : AW) (x : ByteArray) : C Tryz.prog 55 [.string x] σ fun v σ' => v = .int .i64 (stmtKindN x) ∧ σ' = σ := by
  refine C_enter rfl Tryz.func55 rfl Tryz.ntmps55 Tryz.results55 (Nat.le_of_ble_eq_true rfl) ?_; intro A hz hA; have a0 := hA 0 _ rfl; clear hA
  have h := hit_all [(decide (x = ⟨#[115, 101, 116]⟩), 1), (decide (x = ⟨#[105, 102]⟩), 2), (decide (x = ⟨#[119, 104, 105, 108, 101]⟩), 3), (decide (x = ⟨#[102, 111, 114]⟩), 4), (decide (x = ⟨#[112, 114, 105, 110, 116]⟩), 5), (decide (x = ⟨#[105, 110, 112, 117, 116]⟩), 17), (decide (x = ⟨#[105, 110, 115, 101, 114, 116]⟩), 6), (decide (x = ⟨#[117, 112, 100, 97, 116, 101]⟩), 8), (decide (x = ⟨#[100, 101, 108, 101, 116, 101]⟩), 9), (decide (x = ⟨#[116, 114, 121]⟩), 10), (decide (x = ⟨#[114, 97, 105, 115, 101]⟩), 11), (decide (x = ⟨#[99, 97, 108, 108]⟩), 12), (decide (x = ⟨#[98, 101, 103, 105, 110]⟩), 13), (decide (x = ⟨#[99, 111, 109, 109, 105, 116]⟩), 14), (decide (x = ⟨#[114, 111, 108, 108, 98, 97, 99, 107]⟩), 15), (decide (x = ⟨#[115, 107, 105, 112]⟩), 16)] True trivial
  rw [show kindOf _ = stmtKindN x by simp only [kindOf, decide_eq_true_eq]; rfl] at h
  simp only [hitQ, true_and] at h
  generalize stmtKindN x = k at h ⊢
  rcases h with ⟨c, rfl⟩ | ⟨c, rfl⟩ | ⟨c, rfl⟩ | ⟨c, rfl⟩ | ⟨c, rfl⟩ | ⟨c, rfl⟩ | ⟨c, rfl⟩ | ⟨c, rfl⟩ | ⟨c, rfl⟩ | ⟨c, rfl⟩ | ⟨c, rfl⟩ | ⟨c, rfl⟩ | ⟨c, rfl⟩ | ⟨c, rfl⟩ | ⟨c, rfl⟩ | ⟨c, rfl⟩ | ⟨c, rfl⟩
  all_goals
    repeat (first | apply s_R | apply o_n | ((first | apply o_p | (refine' o_g rfl rfl ?_ ?_; rotate_left) | apply w_c); (focus simp (disch := first | decide | (try simp only [zz, hz]) <;> omega | fail) only [go_sem, hz, a0, c] <;> rfl); with_reducible first | apply o_i | apply g_1 | apply g_2 | apply g_3 | apply g_4 | apply c_1 | apply c_2) | apply r_E | apply b_k | apply s_k | apply s_q)
    refine W_ret ?_; (try simp only [Then, Out, Jump, JumpL]); refine ret_mk (by simp (disch := first | decide | (try simp only [zz, hz]) <;> omega | fail) only [go_sem, hz] <;> rfl) ?_; (try simp only [resultA])
    exact ⟨by first | rfl | trivial, by first | rfl | trivial⟩
theorem deeperB_c {E : AW → Prop} (hE : Stable r E) {d : Int} (h0 : 0 ≤ d) (hd : d ≤ 40) {g : Nat} {fs cs : List Value} {m : SM (List Tr)} (hf : d < 40 → ReadsL E 9 r b T (d + 1) g (fs ++ cs) m) :
    ReadsL E 9 r b T d 102 [.pointer (some ⟨r, 0, none⟩), .func (.func g) ⟨fs⟩ ⟨cs⟩] (if d = 40 then tooDeep [] else m) := by
  intro σ s he h
  have hlr := h.lr
  have hlb := h.lb
  obtain ⟨i, h1, hl⟩ := h
  have hr := h1.get
  refine C_enter rfl Tryz.func102 rfl Tryz.ntmps102 Tryz.results102 (Nat.le_of_ble_eq_true rfl) ?_; intro A hz hA; have a0 := hA 0 _ rfl; have a1 := hA 1 _ rfl; clear hA
  by_cases hc : d = 40
  · have c1 : (d == 40) = true := by simp [hc]
    rw [if_pos hc]
    repeat (first | apply s_R | apply o_n | ((first | apply o_p | (refine' o_g rfl rfl ?_ ?_; rotate_left) | apply w_c); (focus simp (disch := first | decide | (try simp only [zz, hz]) <;> omega | fail) only [go_sem, hz, a0, a1, hr, c1] <;> rfl); with_reducible first | apply o_i | apply g_1 | apply g_2 | apply g_3 | apply g_4 | apply c_1 | apply c_2) | apply r_E | apply b_k | apply s_k | apply s_q)
    refine O_call (by simp (disch := first | decide | (try simp only [zz, hz]) <;> omega | fail) only [go_sem, hz, a0, a1, hr, c1] <;> rfl) ?_
    refine C.mono (refuse_c (b := b) (T := T) (d := d) (s := s) ⟨i, h1, hl⟩ 9) ?_
    rintro _ σ2 ⟨h2, g2⟩
    repeat (first | apply s_R | apply o_n | ((first | apply o_p | (refine' o_g rfl rfl ?_ ?_; rotate_left) | apply w_c); (focus simp (disch := first | decide | (try simp only [zz, hz]) <;> omega | fail) only [go_sem, hz, a0, a1] <;> rfl); with_reducible first | apply o_i | apply g_1 | apply g_2 | apply g_3 | apply g_4 | apply c_1 | apply c_2) | apply r_E | apply b_k | apply s_k | apply s_q)
    refine W_ret ?_; (try simp only [Then, Out, Jump, JumpL]); refine ret_mk (by simp (disch := first | decide | (try simp only [zz, hz]) <;> omega | fail) only [go_sem, hz] <;> rfl) ?_; (try simp only [resultA])
    exact ⟨rd_nil _ _ _, h2, g2⟩
  · have c1 : (d == 40) = false := by simp [hc]
    rw [if_neg hc]
    have hadd : fastB .add (.int .i64 d) (.int .i64 1) = some (.int .i64 (d + 1)) := bin_addI (by omega) (by omega)
    have hsub : fastB .sub (.int .i64 (d + 1)) (.int .i64 1) = some (.int .i64 d) := by rw [bin_subI (by omega) (by omega)]; congr 2; omega
    repeat (first | apply s_R | apply o_n | ((first | apply o_p | (refine' o_g rfl rfl ?_ ?_; rotate_left) | apply w_c); (focus simp (disch := first | decide | (try simp only [zz, hz]) <;> omega | fail) only [go_sem, hz, a0, a1, hr, c1, hadd] <;> rfl); with_reducible first | apply o_i | apply g_1 | apply g_2 | apply g_3 | apply g_4 | apply c_1 | apply c_2) | apply r_E | apply b_k | apply s_k | apply s_q)
    refine O_call (by simp (disch := first | decide | (try simp only [zz, hz]) <;> omega | fail) only [go_sem, hz, a0, a1, hr, c1] <;> rfl) ?_
    have g1 : ∀ B2 : Blk, Gr r σ (σ.set r B2) := fun _ => (Gr.refl r σ).set (.inr rfl) _
    refine C.mono (hf (by omega) _ s (hE _ _ he (g1 _)) ⟨i, h1.gr (g1 _) h1.li (by rw [set_eq]), hl⟩) ?_
    rintro v σ2 ⟨t2, h2, g2⟩
    have nx := g2.next
    simp only [set_next] at nx
    obtain ⟨i2, r2, e2⟩ := h2
    have hr2 := r2.get
    repeat (first | apply s_R | apply o_n | ((first | apply o_p | (refine' o_g rfl rfl ?_ ?_; rotate_left) | apply w_c); (focus simp (disch := first | decide | (try simp only [zz, hz]) <;> omega | fail) only [go_sem, hz, a0, a1, hr2, hsub] <;> rfl); with_reducible first | apply o_i | apply g_1 | apply g_2 | apply g_3 | apply g_4 | apply c_1 | apply c_2) | apply r_E | apply b_k | apply s_k | apply s_q)
    refine W_ret ?_; (try simp only [Then, Out, Jump, JumpL]); refine ret_mk (by simp (disch := first | decide | (try simp only [zz, hz]) <;> omega | fail) only [go_sem, hz] <;> rfl) ?_; (try simp only [resultA])
    refine ⟨(t2.ks ((Ks.refl σ2).set (.inr (by rw [hr2])) _)).lo (fun k hk => ?_), ⟨i2, r2.gr ((Gr.refl r σ2).set (.inr rfl) _) r2.li (by rw [set_eq]), e2⟩, ((g1 _).trans g2).trans ((Gr.refl r σ2).set (.inr rfl) _)⟩
    exact hk
theorem block1_c {d : Int} {m : SM (List Tr)} (hs : ReadsL (fun _ => True) 9 r b T d 29 [.pointer (some ⟨r, 0, none⟩)] m) (k : Nat) : ReadsL (fun σ => σ.get k = ⟨1, 50, 0, [.pointer (some ⟨r, 0, none⟩)]⟩ ∧ k < σ.next ∧ k ≠ r) 9 r b T d 103 ([] ++ [.pointer (some ⟨k, 0, none⟩)]) (do
    wantS m_lb
    let l ← m
    wantS m_rb
    pure l) := by
  intro σ s he h
  obtain ⟨gk, hk, hkr⟩ := he
  have e : (do
    wantS m_lb
    let l ← m
    wantS m_rb
    pure l : SM (List Tr)) s = ((m (wantS m_lb s).2).1, (wantS m_rb (m (wantS m_lb s).2).2).2) := rfl
  rw [e]
  refine C_enter rfl Tryz.func103 rfl Tryz.ntmps103 Tryz.results103 (Nat.le_of_ble_eq_true rfl) ?_; intro A hz hA; have a0 := hA 0 _ rfl; clear hA
  repeat (first | apply s_R | apply o_n | ((first | apply o_p | (refine' o_g rfl rfl ?_ ?_; rotate_left) | apply w_c); (focus simp (disch := first | decide | (try simp only [zz, hz]) <;> omega | fail) only [go_sem, hz, a0, gk] <;> rfl); with_reducible first | apply o_i | apply g_1 | apply g_2 | apply g_3 | apply g_4 | apply c_1 | apply c_2) | apply r_E | apply b_k | apply s_k | apply s_q)
  refine O_call (by simp (disch := first | decide | (try simp only [zz, hz]) <;> omega | fail) only [go_sem, hz, a0] <;> rfl) ?_
  refine C.mono (want_c h m_lb) ?_
  rintro _ σ1 ⟨h1, g1⟩
  have nx1 := g1.next
  have k1 := (g1.get k hk hkr).trans gk
  repeat (first | apply s_R | apply o_n | ((first | apply o_p | (refine' o_g rfl rfl ?_ ?_; rotate_left) | apply w_c); (focus simp (disch := first | decide | (try simp only [zz, hz]) <;> omega | fail) only [go_sem, hz, a0, k1] <;> rfl); with_reducible first | apply o_i | apply g_1 | apply g_2 | apply g_3 | apply g_4 | apply c_1 | apply c_2) | apply r_E | apply b_k | apply s_k | apply s_q)
  refine O_call (by simp (disch := first | decide | (try simp only [zz, hz]) <;> omega | fail) only [go_sem, hz, a0] <;> rfl) ?_
  refine C.mono (hs _ _ trivial h1) ?_
  rintro v σ2 ⟨t2, h2, g2⟩
  have nx2 := g2.next
  have k2 := (g2.get k (by omega) hkr).trans k1
  repeat (first | apply s_R | apply o_n | ((first | apply o_p | (refine' o_g rfl rfl ?_ ?_; rotate_left) | apply w_c); (focus simp (disch := first | decide | (try simp only [zz, hz]) <;> omega | fail) only [go_sem, hz, a0, k2] <;> rfl); with_reducible first | apply o_i | apply g_1 | apply g_2 | apply g_3 | apply g_4 | apply c_1 | apply c_2) | apply r_E | apply b_k | apply s_k | apply s_q)
  refine O_call (by simp (disch := first | decide | (try simp only [zz, hz]) <;> omega | fail) only [go_sem, hz, a0] <;> rfl) ?_
  refine C.mono (want_c h2 m_rb) ?_
  rintro _ σ3 ⟨h3, g3⟩
  repeat (first | apply s_R | apply o_n | ((first | apply o_p | (refine' o_g rfl rfl ?_ ?_; rotate_left) | apply w_c); (focus simp (disch := first | decide | (try simp only [zz, hz]) <;> omega | fail) only [go_sem, hz] <;> rfl); with_reducible first | apply o_i | apply g_1 | apply g_2 | apply g_3 | apply g_4 | apply c_1 | apply c_2) | apply r_E | apply b_k | apply s_k | apply s_q)
  refine W_ret ?_; (try simp only [Then, Out, Jump, JumpL]); refine ret_mk (by simp (disch := first | decide | (try simp only [zz, hz]) <;> omega | fail) only [go_sem, hz] <;> rfl) ?_; (try simp only [resultA])
  exact ⟨(t2.ks (g3.ks h2.ez)).lo (fun k hk => by have := hk; omega), h3, (g1.trans g2).trans g3⟩
theorem block_c {d : Int} (h0 : 0 ≤ d) (hd : d ≤ 40) {m : SM (List Tr)} (hs : d < 40 → ReadsL (fun _ => True) 9 r b T (d + 1) 29 [.pointer (some ⟨r, 0, none⟩)] m) : ReadsL (fun _ => True) 9 r b T d 90 [.pointer (some ⟨r, 0, none⟩)] (if d = 40 then tooDeep [] else (do
    wantS m_lb
    let l ← m
    wantS m_rb
    pure l)) := by
  intro σ s he h
  have hlr := h.lr
  refine C_enter rfl Tryz.func90 rfl Tryz.ntmps90 Tryz.results90 (Nat.le_of_ble_eq_true rfl) ?_; intro A hz hA; have a0 := hA 0 _ rfl; clear hA
  repeat (first | apply s_R | apply o_n | ((first | apply o_p | (refine' o_g rfl rfl ?_ ?_; rotate_left) | apply w_c); (focus simp (disch := first | decide | (try simp only [zz, hz]) <;> omega | fail) only [go_sem, hz, a0] <;> rfl); with_reducible first | apply o_i | apply g_1 | apply g_2 | apply g_3 | apply g_4 | apply c_1 | apply c_2) | apply r_E | apply b_k | apply s_k | apply s_q)
  refine O_call (by simp (disch := first | decide | (try simp only [zz, hz]) <;> omega | fail) only [go_sem, hz, a0] <;> rfl) ?_
  refine C.mono (deeperB_c (fs := []) (cs := [.pointer (some ⟨σ.next, 0, none⟩)]) (fun τ τ' he g => ⟨(g.get _ he.2.1 he.2.2).trans he.1, Nat.lt_of_lt_of_le he.2.1 g.next, he.2.2⟩) h0 hd (fun hlt => block1_c (hs hlt) σ.next) _ _ ⟨push_eq, by first | omega | (simp only [push_next, set_next]; first | done | omega), by omega⟩ (h.kp ((Kp.refl σ).push _))) ?_
  rintro v σ2 ⟨t2, h2, g2⟩
  repeat (first | apply s_R | apply o_n | ((first | apply o_p | (refine' o_g rfl rfl ?_ ?_; rotate_left) | apply w_c); (focus simp (disch := first | decide | (try simp only [zz, hz]) <;> omega | fail) only [go_sem, hz] <;> rfl); with_reducible first | apply o_i | apply g_1 | apply g_2 | apply g_3 | apply g_4 | apply c_1 | apply c_2) | apply r_E | apply b_k | apply s_k | apply s_q)
  refine W_ret ?_; (try simp only [Then, Out, Jump, JumpL]); refine ret_mk (by simp (disch := first | decide | (try simp only [zz, hz]) <;> omega | fail) only [go_sem, hz] <;> rfl) ?_; (try simp only [resultA])
  exact ⟨t2.lo (fun k hk => by have := hk; simp only [push_next] at this; omega), h2, g2.unpush⟩
end
end Go.Proofs.YtckidlbmoalomaaGreatDoor


namespace Go.Proofs.YtckidlbmoalomaaGreatDoor
open Go.RowKit

def plainK : Op → Bool
  | .move _ | .assign _ | .load _ _ | .store _ _ _ | .buildSlice _ _ _ | .fieldAddr _ _ _ | .indexAddr _ _ _ | .nilCheck _ | .alloc _ => true
  | .call c => match c.callee with
    | .builtin .len | .builtin .append => true
    | _ => false
  | _ => false
section
variable {P : Program}
theorem val_res {s : Sem Value} {w w' : World} {n : Next} (h : (s >>= fun x => pure (.value x) : Sem Next).run P w = .ok n w') : ∃ v, n = .value v := by
  rw [Sem.run_bind] at h
  cases hs : s.run P w with
  | ok v w1 => rw [hs] at h; simp only [Result.andThen, Sem.run_pure] at h; injection h with h1 _; exact ⟨v, h1.symm⟩
  | halt x w1 => rw [hs] at h; cases h
theorem unit_res {s : Sem Unit} {w w' : World} {n : Next} (h : (s >>= fun _ => pure .skip : Sem Next).run P w = .ok n w') : n = .skip := by
  rw [Sem.run_bind] at h
  cases hs : s.run P w with
  | ok v w1 => rw [hs] at h; simp only [Result.andThen, Sem.run_pure] at h; injection h with h1 _; exact h1.symm
  | halt x w1 => rw [hs] at h; cases h
def Tame (n : Next) : Prop := (∃ v, n = .value v) ∨ n = .skip
theorem plain_res {o : Oper} (hp : plainK o.op = true) {ρ : Operand → Value} {w w' : World} {n : Next} (h : (execOp ρ o).run P w = .ok n w') : Tame n := by
  unfold execOp at h
  cases ho : o.op with
  | move x => rw [ho] at h; simp only [Sem.run_pure] at h; injection h with h1 _; exact .inl ⟨_, h1.symm⟩
  | assign x => rw [ho] at h; simp only [Sem.run_pure] at h; injection h with h1 _; exact .inl ⟨_, h1.symm⟩
  | load t x => rw [ho] at h; exact .inl (val_res h)
  | buildSlice t l p => rw [ho] at h; exact .inl (val_res h)
  | fieldAddr t x f => rw [ho] at h; exact .inl (val_res h)
  | indexAddr t x y => rw [ho] at h; exact .inl (val_res h)
  | alloc t => rw [ho] at h; exact .inl (val_res h)
  | store t x y => rw [ho] at h; exact .inr (unit_res h)
  | nilCheck x =>
    rw [ho] at h
    simp only at h
    have hv : ∀ {v : Value}, (pure (.value v) : Sem Next).run P w = .ok n w' → Tame n := fun h => by
      rw [Sem.run_pure] at h
      injection h with h1 _
      exact .inl ⟨_, h1.symm⟩
    have hd : ∀ {s : Sem Unit} {v : Value}, (s >>= fun _ => pure (.value v) : Sem Next).run P w = .ok n w' → Tame n := fun {s v} h => by
      rw [Sem.run_bind] at h
      cases hs : s.run P w with
      | ok u w1 => rw [hs] at h; simp only [Result.andThen, Sem.run_pure] at h; injection h with h1 _; exact .inl ⟨_, h1.symm⟩
      | halt x w1 => rw [hs] at h; cases h
    split at h
    · cases h
    · cases h
    · cases h
    · split at h
      · cases h
      · have hb : ∀ {α : Type} {s : Sem α} {f : α → Sem Next} {w1 : World}, (∀ a w2, (f a).run P w2 = .ok n w' → Tame n) → (s >>= f).run P w1 = .ok n w' → Tame n := fun {α s f w1} hf h => by
          rw [Sem.run_bind] at h
          cases hs : s.run P w1 with
          | ok u w2 => rw [hs] at h; exact hf _ _ h
          | halt x w2 => rw [hs] at h; cases h
        have hv' : ∀ {v : Value} {w1 : World}, (pure (.value v) : Sem Next).run P w1 = .ok n w' → Tame n := fun h => by
          rw [Sem.run_pure] at h
          injection h with h1 _
          exact .inl ⟨_, h1.symm⟩
        refine hb (fun p w2 h => hb (fun q w3 h => ?_) h) h
        split at h
        · exact hb (fun _ _ h => hv' h) h
        · exact hv' h
      · exact hv h
    · exact hv h
  | call c =>
    rw [ho] at h hp
    simp only [plainK] at hp
    cases hc : c.callee with
    | builtin b =>
      rw [hc] at hp
      simp only [resolve, hc, Sem.run_bind, Sem.run_pure, Result.andThen, invoke] at h
      cases b with
      | len => exact .inl (val_res h)
      | append => exact .inl (val_res h)
      | _ => cases hp
    | _ => rw [hc] at hp; cases hp
  | _ => rw [ho] at hp; cases hp
theorem wp_both {ops : Array Oper} {Q : Exit → Act → World → Prop} {k : Nat} {K1 K2 K : Act → World → Prop} {a : Act} {w : World} (hp : ∀ o, ops[k]? = some o → plainK o.op = true) (hk : ∀ a w, K1 a w → K2 a w → K a w) (h1 : wpOp P ops Q k K1 a w) (h2 : wpOp P ops Q k K2 a w) : wpOp P ops Q k K a w := by
  unfold wpOp at *
  cases ho : ops[k]? with
  | none => rw [ho] at h1 h2; exact hk _ _ h1 h2
  | some o =>
    rw [ho] at h1 h2
    simp only at h1 h2 ⊢
    split
    · rename_i hw
      rw [if_pos hw] at h1 h2
      rcases h1 with h1 | h1
      · rcases h2 with h2 | h2
        · left
          unfold Oper.wp at *
          cases hr : (execOp a.eval o).run P w with
          | ok n w' =>
            rw [hr] at h1 h2
            rcases plain_res (hp o ho) hr with ⟨v, rfl⟩ | rfl
            · exact hk _ _ h1 h2
            · exact hk _ _ h1 h2
          | halt x w' =>
            rw [hr] at h1
            cases x <;> exact h1
        · exact .inr h2
      · exact .inr h1
    · rename_i hw
      rw [if_neg hw] at h1 h2
      exact hk _ _ h1 h2
structure Ext (ops ops1 : Array Oper) (j i : Nat) : Prop where
  size : ops1.size = ops.size
  same : ∀ k, k ≠ j → ops1[k]? = ops[k]?
  more : ∃ o, ops[j]? = some o ∧ ops1[j]? = some { o with after := o.after.push ⟨i, .data⟩ }
theorem Ext.yields {ops ops1 : Array Oper} {j i : Nat} (h : Ext ops ops1 j i) (tm : Array Value) : yielded ops1 tm = yielded ops tm := by
  funext k
  unfold yielded
  by_cases hk : k = j
  · obtain ⟨o, h1, h2⟩ := h.more
    rw [hk, h1, h2]
    rfl
  · rw [h.same k hk]
theorem Ext.wp {ops ops1 : Array Oper} {j i : Nat} (h : Ext ops ops1 j i) {Q : Exit → Act → World → Prop} {k : Nat} {K : Act → World → Prop} {a : Act} {w : World} (hw : wpOp P ops1 Q k K a w) : wpOp P ops Q k K a w := by
  unfold wpOp at *
  rw [h.yields] at hw
  by_cases hk : k = j
  · obtain ⟨o, h1, h2⟩ := h.more
    subst hk
    rw [h2] at hw
    rw [h1]
    exact hw
  · rw [h.same k hk] at hw
    exact hw
theorem Ext.ready {ops ops1 : Array Oper} {j i : Nat} (h : Ext ops ops1 j i) {md : Region.Mode} {L : Array Bool} {k : Nat} (hk : k ∈ Region.ready md ops1 L) : k ∈ Region.ready md ops L := by
  rw [mem_ready] at hk ⊢
  obtain ⟨h0, o, ho, he⟩ := hk
  by_cases hj : k = j
  · obtain ⟨o1, h1, h2⟩ := h.more
    subst hj
    rw [h2] at ho
    injection ho with ho
    subst ho
    exact ⟨h0, o1, h1, fun e hm hb => he e (by simp [hm]) hb⟩
  · rw [h.same k hj] at ho
    exact ⟨h0, o, ho, he⟩
theorem Ext.back {ops ops1 : Array Oper} {j i : Nat} (h : Ext ops ops1 j i) {md : Region.Mode} {L : Array Bool} {k : Nat} (hk : k ∈ Region.ready md ops L) (hh : k ≠ j ∨ L.getD i false = true) : k ∈ Region.ready md ops1 L := by
  rw [mem_ready] at hk ⊢
  obtain ⟨h0, o, ho, he⟩ := hk
  by_cases hj : k = j
  · obtain ⟨o1, h1, h2⟩ := h.more
    subst hj
    rw [h1] at ho
    injection ho with ho
    subst ho
    refine ⟨h0, _, h2, fun e hm hb => ?_⟩
    simp only [Array.mem_push] at hm
    rcases hm with hm | rfl
    · exact he e hm hb
    · rcases hh with hh | hh
      · exact absurd rfl hh
      · exact hh
  · exact ⟨h0, o, by rw [h.same k hj]; exact ho, he⟩
theorem any_one {ops ops1 : Array Oper} {j i : Nat} (h : Ext ops ops1 j i) {md : Region.Mode} {Q : Exit → Act → World → Prop} : ∀ (f : Nat) (L : Array Bool) (a : Act) (w : World), L.getD i false = true → wpAny P md ops1 Q f L a w → wpAny P md ops Q f L a w := by
  have hnil : ∀ L : Array Bool, Region.ready md ops L = [] → Region.ready md ops1 L = [] := fun L hr => by
    cases hq : Region.ready md ops1 L with
    | nil => rfl
    | cons k r => exact absurd (h.ready (by rw [hq]; exact List.mem_cons_self ..)) (by rw [hr]; simp)
  have hnil' : ∀ L : Array Bool, L.getD i false = true → Region.ready md ops1 L = [] → Region.ready md ops L = [] := fun L hL hr => by
    cases hq : Region.ready md ops L with
    | nil => rfl
    | cons k r => exact absurd (h.back (k := k) (by rw [hq]; exact List.mem_cons_self ..) (.inr hL)) (by rw [hr]; simp)
  intro f
  induction f with
  | zero => exact fun L a w hL hw => ⟨hnil' L hL hw.1, hw.2⟩
  | succ f ih =>
    intro L a w hL hw
    refine ⟨fun hr => hw.1 (hnil L hr), fun k hk => ?_⟩
    refine h.wp (wpOp_mono (fun a w => ih _ a w ?_) (hw.2 k (h.back hk (.inr hL))))
    simp only [Array.getD_eq_getD_getElem?, Array.getElem?_setIfInBounds] at hL ⊢
    split
    · split <;> simp_all
    · exact hL
theorem any_two {ops ops1 ops2 : Array Oper} {j i : Nat} (hne : i ≠ j) (h1 : Ext ops ops1 j i) (h2 : Ext ops ops2 i j) (hp : ∀ (k : Nat) (o : Oper), ops[k]? = some o → plainK o.op = true) {md : Region.Mode} {Q : Exit → Act → World → Prop} : ∀ (f : Nat) (L : Array Bool) (a : Act) (w : World), i < L.size → j < L.size → wpAny P md ops1 Q f L a w → wpAny P md ops2 Q f L a w → wpAny P md ops Q f L a w := by
  intro f
  induction f with
  | zero =>
    intro L a w _ _ w1 w2
    refine ⟨?_, w1.2⟩
    cases hq : Region.ready md ops L with
    | nil => rfl
    | cons k r =>
      have hk : k ∈ Region.ready md ops L := by rw [hq]; exact List.mem_cons_self ..
      by_cases hj : k = j
      · have := h2.back hk (.inl (by rw [hj]; exact Ne.symm hne))
        rw [w2.1] at this
        cases this
      · have := h1.back hk (.inl hj)
        rw [w1.1] at this
        cases this
  | succ f ih =>
    intro L a w hi hj w1 w2
    have hset : ∀ k, k < L.size → (L.setIfInBounds k true).getD k false = true := fun k hk => by simp [hk]
    refine ⟨fun hr => w1.1 ?_, fun k hk => ?_⟩
    · cases hq : Region.ready md ops1 L with
      | nil => rfl
      | cons k r => exact absurd (h1.ready (by rw [hq]; exact List.mem_cons_self ..)) (by rw [hr]; simp)
    · by_cases hkj : k = j
      · subst hkj
        exact h2.wp (wpOp_mono (fun a w => any_one h2 f _ a w (hset _ hj)) (w2.2 k (h2.back hk (.inl (Ne.symm hne)))))
      · by_cases hki : k = i
        · subst hki
          exact h1.wp (wpOp_mono (fun a w => any_one h1 f _ a w (hset _ hi)) (w1.2 k (h1.back hk (.inl hkj))))
        · exact wp_both (hp k) (fun a w => ih _ a w (by simpa using hi) (by simpa using hj)) (h1.wp (w1.2 k (h1.back hk (.inl hkj)))) (h2.wp (w2.2 k (h2.back hk (.inl hki))))
theorem opsT_mono {all : List Oper} {K K' : List (Fr × AW × Value) → Fr → AW → Prop} : ∀ {l1 : List Oper} {tr : List (Fr × AW × Value)} {A : Fr} {σ : AW}, (∀ tr A σ, K tr A σ → K' tr A σ) → OpsT P all l1 tr A σ K → OpsT P all l1 tr A σ K'
  | [], _, _, _, hk, h => hk _ _ _ h
  | _ :: _, _, _, _, hk, ⟨v, σ', hg, hr⟩ => ⟨v, σ', hg, opsT_mono hk hr⟩
theorem trace_of {l : List Oper} {A A' : Fr} {σ σ' : AW} (h : OpsV P l 0 l [] [(0, σ)] A σ (fun pd st A1 σ1 => (∀ p ∈ owes l (ancL [] l) (floatAt l (ancL [] l)), OwedV P l pd st p) ∧ A1 = A' ∧ σ1 = σ')) :
    ∃ tr, TraceR P l tr A A' σ σ' ∧ CalmR P l (ancL [] l) (floatAt l (ancL [] l)) tr σ' := by
  have h := opsV_T (tr := []) (fun p hp => by cases hp) (fun p hp => by simp only [List.mem_singleton] at hp; subst hp; exact ⟨Nat.le_refl _, rfl⟩) h
  have h : OpsT P l l [] A σ (fun tr A1 σ1 => (∀ p ∈ owes l (ancL [] l) (floatAt l (ancL [] l)), Owed P l tr σ1 p) ∧ A1 = A' ∧ σ1 = σ') := by
    refine opsT_mono ?_ h
    rintro tr A1 σ1 ⟨pd, st, h1, h2, h3, h4⟩
    refine ⟨fun p hp => ?_, h4⟩
    obtain ⟨o, B, v, τ, q1, q2, q3, q4⟩ := h3 p hp
    have hpd := getK_all (Q := fun k x => ∃ τ, tr[k]? = some (x.1, τ, x.2)) h1 q2
    have hst := getK_all (Q := fun k x => stOf tr σ1 k = x) h2 q3
    obtain ⟨τ', hτ'⟩ := hpd
    unfold Owed
    simp only [q1, hτ', hst]
    exact q4
  obtain ⟨tr, A1, σ1, ht, ho, rfl, rfl⟩ := opsT_trace (A0 := A) (σ0 := σ) (by simp) (Nat.zero_le _) ⟨by unfold stAt; rfl, fun i o _ hi => absurd hi (Nat.not_lt_zero _)⟩ h
  exact ⟨tr, ht, calm_owed ht ho⟩
def addE (l : List Oper) (j i : Nat) : List Oper := l.modify j fun o => { o with after := o.after.push ⟨i, .data⟩ }
theorem addE_ext {l : List Oper} {j i : Nat} (hj : j < l.length) : Ext l.toArray (addE l j i).toArray j i := by
  refine ⟨by simp [addE], fun k hk => by simp [addE, Ne.symm hk], l[j], by simp [hj], by simp [addE, hj]⟩
theorem W_two {id : Nat} {l l1 all2 : List Oper} (i j : Nat) (ord : List Nat) {A A' : Fr} {σ σ' : AW} {Q : Exit → Fr → AW → Prop} (hm : P.follows .mixedOrders = true) (hij : (Nat.blt i l.length && Nat.blt j l.length && !Nat.beq i j) = true) (hpl : l.all (fun o => plainK o.op) = true)
    (e1 : addE l j i = l1) (hok1 : regOK l1 = true) (hf1 : floatFit l1 (floatAt l1 (ancL [] l1)) A = true) (h1 : OpsV P l1 0 l1 [] [(0, σ)] A σ (fun pd st A1 σ1 => (∀ p ∈ owes l1 (ancL [] l1) (floatAt l1 (ancL [] l1)), OwedV P l1 pd st p) ∧ A1 = A' ∧ σ1 = σ'))
    (e2 : permOps (addE l i j) ord = all2) (hpe : permOK (addE l i j) ord = true) (hwi : within (addE l i j) = true) (hok2 : regOK all2 = true) (hf2 : floatFit all2 (floatAt all2 (ancL [] all2)) A = true) (h2 : OpsV P all2 0 all2 [] [(0, σ)] A σ (fun pd st A1 σ1 => (∀ p ∈ owes all2 (ancL [] all2) (floatAt all2 (ancL [] all2)), OwedV P all2 pd st p) ∧ A1 = A' ∧ σ1 = σ'))
    (hq : Q .normal A' σ') : W P (.region id l.toArray true) A σ Q := by
  simp only [Bool.and_eq_true, Bool.not_eq_true'] at hij
  obtain ⟨⟨hi, hj⟩, hne⟩ := hij
  have hi : i < l.length := Nat.le_of_ble_eq_true hi
  have hj : j < l.length := Nat.le_of_ble_eq_true hj
  have hne : i ≠ j := Nat.ne_of_beq_eq_false hne
  subst e1
  obtain ⟨tr1, t1, c1⟩ := trace_of h1
  obtain ⟨tr2, t2, c2⟩ := trace_of h2
  refine ⟨.normal, A', σ', fun ρ a w hR hT => wp_region_any hm ?_, hq⟩
  have hQ : ∀ ρ' a' w', Step ρ σ w ρ' σ' w' → TR ρ' σ' A' a' → (fun e' a' w' => e' = .normal ∧ ∃ ρ', Step ρ σ w ρ' σ' w' ∧ TR ρ' σ' A' a') Exit.normal a' w' := fun ρ' a' w' hst hT' => ⟨rfl, ρ', hst, hT'⟩
  have d1 := draw_any (P := P) (ops := (addE l j i).toArray) (Q := fun e' a' w' => e' = .normal ∧ ∃ ρ', Step ρ σ w ρ' σ' w' ∧ TR ρ' σ' A' a') hok1 hf1 t1 c1 hR hT hQ
  have d2 := draw_perm (P := P) (ops := (addE l i j).toArray) (Q := fun e' a' w' => e' = .normal ∧ ∃ ρ', Step ρ σ w ρ' σ' w' ∧ TR ρ' σ' A' a') e2 hpe hwi hok2 hf2 t2 c2 hR hT hQ
  have z1 : (addE l j i).toArray.size = l.toArray.size := (addE_ext hj).size
  have z2 : (addE l i j).toArray.size = l.toArray.size := (addE_ext hi).size
  rw [z1] at d1
  rw [z2] at d2
  exact any_two hne (addE_ext hj) (addE_ext hi) (fun k o ho => List.all_eq_true.1 hpl o (by simpa using List.mem_of_getElem? (by simpa using ho))) _ _ a _ (by simpa using hi) (by simpa using hj) d1 d2
end
end Go.Proofs.YtckidlbmoalomaaGreatDoor


namespace Go.Proofs.YtckidlbmoalomaaGreatDoor
open Go.RowKit
set_option maxRecDepth 10000
set_option linter.unusedSimpArgs false
set_option linter.unusedVariables false

def ebStep (x : ByteArray) (m : SM ByteArray) : List ByteArray → SM (Option (List ByteArray)) := fun l => do
    if ← takeS x then do
      let y ← m
      pure (some (l ++ [y]))
    else pure none
theorem eb_true {x : ByteArray} {m : SM ByteArray} {s : Sy} {k : Nat} {ps : List ByteArray} (h : (takeS x s).1 = true) : loopS (ebStep x m) (k + 1) ps s = loopS (ebStep x m) k (ps ++ [(m (takeS x s).2).1]) (m (takeS x s).2).2 := by
  have h1 : ebStep x m ps s = (some (ps ++ [(m (takeS x s).2).1]), (m (takeS x s).2).2) := by
    show (if (takeS x s).1 = true then (m >>= fun y => pure (some (ps ++ [y])) : SM (Option (List ByteArray))) else pure none) (takeS x s).2 = _
    rw [if_pos h]
    rfl
  simp only [loopS, SM.bind_run, h1]
theorem eb_false {x : ByteArray} {m : SM ByteArray} {s : Sy} {k : Nat} {ps : List ByteArray} (h : (takeS x s).1 = false) : loopS (ebStep x m) (k + 1) ps s = (ps, (takeS x s).2) := by
  have h1 : ebStep x m ps s = (none, (takeS x s).2) := by
    show (if (takeS x s).1 = true then (m >>= fun y => pure (some (ps ++ [y])) : SM (Option (List ByteArray))) else pure none) (takeS x s).2 = _
    rw [if_neg (by simp [h])]
    rfl
  simp only [loopS, SM.bind_run, h1]
  rfl
def GrowT (σ : AW) (N e : Nat) (v : Value) (ws : List ByteArray) : Prop := ∃ B c k z, v = .slice (some ⟨B, 0, none⟩) ws.length c ∧ σ.get B = ⟨k, e, z, ws.map Value.string⟩ ∧ ((k = 1 ∧ c = 2 * ws.length ∧ z = 1) ∨ (k = 2 ∧ c = 1 ∧ z = 1)) ∧ N ≤ B ∧ B < σ.next
theorem rdL_texts {σ : AW} {D : Nat → Prop} : ∀ ws : List ByteArray, RdL σ D (ws.map Value.string) (ws.map Value.string)
  | [] => rfl
  | w :: ws => ⟨_, _, rfl, rfl, rdL_texts ws⟩
theorem flat_texts (ws : List ByteArray) : (ws.map Value.string).flatMap cellsL = ws.map Value.string := by
  induction ws with
  | nil => rfl
  | cons w ws ih => rw [List.map_cons, List.flatMap_cons, ih]; rfl
theorem GrowT.rd {σ : AW} {N e : Nat} {v : Value} {ws : List ByteArray} (h : GrowT σ N e v ws) : Rd σ (fun k => N ≤ k) (sl 1 (ws.map Value.string)) v := by
  obtain ⟨B, c, k, z, rfl, h2, h3, h4, h5⟩ := h
  refine rd_sl.2 ⟨ws.map Value.string, rdL_texts ws, .inr ⟨B, 0, c, k, e, z, _, by rw [List.length_map], h2, h3.imp (·.1) (·.1), ?_, h5, h4, ?_, fun u hu => ?_⟩⟩
  · rcases h3 with ⟨_, _, rfl⟩ | ⟨_, _, rfl⟩ <;> decide
  · rw [List.drop_zero, List.take_of_length_le (by simp), flat_texts]
  · obtain ⟨w, _, rfl⟩ := List.mem_map.1 hu
    rfl
theorem GrowT.gr {r : Nat} {σ σ' : AW} {N e : Nat} {v : Value} {ws : List ByteArray} (h : GrowT σ N e v ws) (g : Gr r σ σ') (hr : r < N) : GrowT σ' N e v ws := by
  obtain ⟨B, c, k, z, h1, h2, h3, h4, h5⟩ := h
  exact ⟨B, c, k, z, h1, by rw [g.get B h5 (by omega)]; exact h2, h3, h4, Nat.lt_of_lt_of_le h5 g.next⟩
theorem growT_app {P : Program} {σ : AW} {N t e bts : Nat} {zv v : Value} {ws : List ByteArray} {x : ByteArray} (hu : P.underlying t = some (.slice e)) (hio : (P.info? e).map (fun i => (i.zero, i.size, i.bytes)) = some (some zv, 1, bts)) (hz : (cellsL zv).length = 1) (hN : N ≤ σ.next) (hG : GrowT σ N e v ws) (hb : (2 * (ws.length + 1) + 768) * bts ≤ 281474976710656) (hlen : ws.length + 1 ≤ 1000000000) :
    ∃ v' σ', appendA P (σ.push ⟨1, e, 1, [x].map Value.string⟩) t t v (.slice (some ⟨σ.next, 0, none⟩) 1 2) = some (v', σ') ∧ GrowT σ' N e v' (ws ++ [x]) ∧ Ow N σ σ' ∧ ∀ j, j < σ.next → (σ.get j).esz = 0 → σ'.get j = σ.get j := by
  obtain ⟨B, c, k, z, rfl, h2, h3, h4, h5⟩ := hG
  change ∃ v' σ', appendA P (σ.push ⟨1, e, 1, [.string x]⟩) t t _ _ = _ ∧ _
  have hne : B ≠ σ.next := by omega
  have hcs : (ws.map Value.string).length = ws.length * 1 := by simp
  refine ⟨_, _, append_1 hu hio hz (by decide) (len := ws.length) (by rw [push_ne hne]; exact h2) (h3.imp (fun h => ⟨h.1, h.2.1⟩) (fun h => ⟨h.1, h.2.1, rfl, h.2.2⟩)) hcs push_eq rfl rfl hb hlen, ?_, ?_, fun j hj hz0 => ?_⟩
  · have hnx : (if k = 1 then σ.push ⟨1, e, 1, [.string x]⟩ else (σ.push ⟨1, e, 1, [.string x]⟩).set B noBlk).next = σ.next + 1 := by split <;> rfl
    refine ⟨σ.next + 1, 1, 2, 1, by rw [List.length_append]; rfl, ?_, .inr ⟨rfl, rfl, rfl⟩, by omega, by rw [push_next, hnx]; omega⟩
    have := push_eq (σ := if k = 1 then σ.push ⟨1, e, 1, [.string x]⟩ else (σ.push ⟨1, e, 1, [.string x]⟩).set B noBlk) (b := ⟨2, e, 1, ws.map Value.string ++ [.string x]⟩)
    rw [hnx] at this
    rw [this]
    simp
  · split
    · exact (((Ow.refl N σ).push _).push _)
    · exact ((((Ow.refl N σ).push _).set h4 _).push _)
  · have hjB : j ≠ B := fun e => by
      rw [e, h2] at hz0
      rcases h3 with ⟨_, _, e3⟩ | ⟨_, _, e3⟩ <;> (simp only at hz0; omega)
    have hnx : (if k = 1 then σ.push ⟨1, e, 1, [.string x]⟩ else (σ.push ⟨1, e, 1, [.string x]⟩).set B noBlk).next = σ.next + 1 := by split <;> rfl
    rw [push_ne (by rw [hnx]; omega)]
    split
    · exact push_ne (by omega)
    · rw [set_ne hjB, push_ne (by omega)]
section
variable {r b : Nat} {T : List Tk}
theorem listN_c {d : Int} (x : ByteArray) {σ : AW} {s : Sy} (h : RdS σ r b T d s) : C Tryz.prog 91 [.pointer (some ⟨r, 0, none⟩), .string x, .func (.func 51) ⟨[.pointer (some ⟨r, 0, none⟩)]⟩ ⟨[]⟩] σ fun v σ' => Rd σ' (fun k => σ.next ≤ k) (sl 1 ((listS x nameS s).1.map Value.string)) v ∧ RdS σ' r b T d (listS x nameS s).2 ∧ Gr r σ σ' := by
  have hlr := h.lr
  have hlb := h.lb
  have hfew : s.left.length ≤ 100000 := by obtain ⟨i, h1, h2⟩ := h; rw [h2, List.length_drop]; have := h1.few; omega
  refine C_enter rfl Tryz.func91 rfl Tryz.ntmps91 Tryz.results91 (Nat.le_of_ble_eq_true rfl) ?_; intro A hz hA; have a0 := hA 0 _ rfl; have a1 := hA 1 _ rfl; have a2 := hA 2 _ rfl; clear hA
  repeat (first | apply s_R | apply o_n | ((first | apply o_p | (refine' o_g rfl rfl ?_ ?_; rotate_left) | apply w_c); (focus simp (disch := first | decide | (try simp only [zz, hz]) <;> omega | fail) only [go_sem, hz, a0, a1, a2] <;> rfl); with_reducible first | apply o_i | apply g_1 | apply g_2 | apply g_3 | apply g_4 | apply c_1 | apply c_2) | apply r_E | apply b_k | apply s_k | apply s_q)
  refine O_call (by simp (disch := first | decide | (try simp only [zz, hz]) <;> omega | fail) only [go_sem, hz, a0, a1, a2] <;> rfl) ?_
  refine C.mono (name_c word_c h) ?_
  rintro _ σ1 ⟨rfl, h1, g1⟩
  have nx1 := g1.next
  have hs1 := Shr.name s
  repeat (first | apply s_R | apply o_n | ((first | apply o_p | (refine' o_g rfl rfl ?_ ?_; rotate_left) | apply w_c); (focus simp (disch := first | decide | (try simp only [zz, hz]) <;> omega | fail) only [go_sem, hz, a0, a1, a2] <;> rfl); with_reducible first | apply o_i | apply g_1 | apply g_2 | apply g_3 | apply g_4 | apply c_1 | apply c_2) | apply r_E | apply b_k | apply s_k | apply s_q)
  refine W_loop (WL_inv (fun k B σ2 => ∃ s2 ws v, s2.left.length ≤ k ∧ B.size = 20 ∧ B.get 0 = some (.pointer (some ⟨r, 0, none⟩)) ∧ B.get 1 = some (.string x) ∧ B.get 2 = some (.func (.func 51) ⟨[.pointer (some ⟨r, 0, none⟩)]⟩ ⟨[]⟩) ∧ B.get 7 = some v ∧ RdS σ2 r b T d s2 ∧ Gr r σ σ2 ∧ GrowT σ2 σ.next 9 v ws ∧ ws.length + s2.left.length ≤ s.left.length + 1 ∧ loopS (ebStep x nameS) k ws s2 = listS x nameS s) ?_ (m := (nameS s).2.left.length) ⟨(nameS s).2, [(nameS s).1], _, Nat.le_refl _, (by simp (disch := first | decide | (try simp only [zz, hz]) <;> omega | fail) only [go_sem, hz] <;> rfl), (by simp (disch := first | decide | (try simp only [zz, hz]) <;> omega | fail) only [go_sem, hz, a0] <;> rfl), (by simp (disch := first | decide | (try simp only [zz, hz]) <;> omega | fail) only [go_sem, hz, a1] <;> rfl), (by simp (disch := first | decide | (try simp only [zz, hz]) <;> omega | fail) only [go_sem, hz, a2] <;> rfl), (by simp (disch := first | decide | (try simp only [zz, hz]) <;> omega | fail) only [go_sem, hz] <;> rfl), h1.kp ((Kp.refl σ1).push _), g1.kp ((Kp.refl σ1).push _), ?_, ?_, rfl⟩)
  · rintro k B σ2 ⟨s2, ws, v, hk, hz, b0, b1, b2, b7, h2, g2, hG, hcnt, hloop⟩
    repeat (first | apply s_R | apply o_n | ((first | apply o_p | (refine' o_g rfl rfl ?_ ?_; rotate_left) | apply w_c); (focus simp (disch := first | decide | (try simp only [zz, hz]) <;> omega | fail) only [go_sem, hz, b0, b1, b2, b7] <;> rfl); with_reducible first | apply o_i | apply g_1 | apply g_2 | apply g_3 | apply g_4 | apply c_1 | apply c_2) | apply r_E | apply b_k | apply s_k | apply s_q)
    refine O_call (by simp (disch := first | decide | (try simp only [zz, hz]) <;> omega | fail) only [go_sem, hz, b0, b1, b2, b7] <;> rfl) ?_
    refine C.mono (take_c h2 x) ?_
    rintro _ σ3 ⟨rfl, h3, g3⟩
    obtain ⟨i2, hi1, hi2, _⟩ := h2.head
    have hpos : 0 < s2.left.length := by rw [hi2, List.length_drop]; have := hi1.li; omega
    have nx3 := g3.next
    have nx2 := g2.next
    obtain ⟨k, rfl⟩ : ∃ j, k = j + 1 := ⟨k - 1, by omega⟩
    have hG3 := hG.gr g3 hlr
    cases ht : (takeS x s2).1 with
    | true =>
      have hlt : (takeS x s2).2.left.length < s2.left.length := take_lt hpos ht
      rw [eb_true ht] at hloop
      repeat (first | apply s_R | apply o_n | ((first | apply o_p | (refine' o_g rfl rfl ?_ ?_; rotate_left) | apply w_c); (focus simp (disch := first | decide | (try simp only [zz, hz]) <;> omega | fail) only [go_sem, hz, b0, b1, b2, b7] <;> rfl); with_reducible first | apply o_i | apply g_1 | apply g_2 | apply g_3 | apply g_4 | apply c_1 | apply c_2) | apply r_E | apply b_k | apply s_k | apply s_q)
      refine O_call (by simp (disch := first | decide | (try simp only [zz, hz]) <;> omega | fail) only [go_sem, hz, b0, b1, b2, b7] <;> rfl) ?_
      refine C.mono (name_c word_c h3) ?_
      rintro _ σ4 ⟨rfl, h4, g4⟩
      have hs4 := Shr.name (takeS x s2).2
      have nx4 := g4.next
      obtain ⟨v', σ', hap, hG', hOw, _⟩ := growT_app (x := (nameS (takeS x s2).2).1) us_53 io_9 rfl (N := σ.next) (by omega) (hG3.gr g4 hlr) (by omega) (by omega)
      repeat (first | apply s_R | apply o_n | ((first | apply o_p | (refine' o_g rfl rfl ?_ ?_; rotate_left) | apply w_c); (focus simp (disch := first | decide | (try simp only [zz, hz]) <;> omega | fail) only [go_sem, hz, b0, b1, b2, b7, hap] <;> rfl); with_reducible first | apply o_i | apply g_1 | apply g_2 | apply g_3 | apply g_4 | apply c_1 | apply c_2) | apply r_E | apply b_k | apply s_k | apply s_q)
      exact (by refine' ⟨k, Nat.lt_succ_self _, (nameS (takeS x s2).2).2, ws ++ [(nameS (takeS x s2).2).1], v', by omega, ?_, ?_, ?_, ?_, ?_, h4.ow hOw hlr hlb, ((g2.trans g3).trans g4).ow hOw, hG', by rw [List.length_append, List.length_singleton]; omega, hloop⟩; any_goals simp (disch := first | decide | (try simp only [zz, hz]) <;> omega | fail) only [go_sem, hz, b0, b1, b2] <;> rfl)
    | false =>
      rw [eb_false ht] at hloop
      repeat (first | apply s_R | apply o_n | ((first | apply o_p | (refine' o_g rfl rfl ?_ ?_; rotate_left) | apply w_c); (focus simp (disch := first | decide | (try simp only [zz, hz]) <;> omega | fail) only [go_sem, hz, b0, b1, b2, b7] <;> rfl); with_reducible first | apply o_i | apply g_1 | apply g_2 | apply g_3 | apply g_4 | apply c_1 | apply c_2) | apply r_E | apply b_k | apply s_k | apply s_q)
      refine W_exit ?_; simp only [Then, Out, JumpL, reduceIte, Nat.reduceEqDiff]
      repeat (first | apply s_R | apply o_n | ((first | apply o_p | (refine' o_g rfl rfl ?_ ?_; rotate_left) | apply w_c); (focus simp (disch := first | decide | (try simp only [zz, hz]) <;> omega | fail) only [go_sem, hz, b0, b1, b2, b7] <;> rfl); with_reducible first | apply o_i | apply g_1 | apply g_2 | apply g_3 | apply g_4 | apply c_1 | apply c_2) | apply r_E | apply b_k | apply s_k | apply s_q)
      refine W_ret ?_; (try simp only [Then, Out, Jump, JumpL]); refine ret_mk (by simp (disch := first | decide | (try simp only [zz, hz]) <;> omega | fail) only [go_sem, hz] <;> rfl) ?_; (try simp only [resultA])
      rw [← hloop]
      exact ⟨hG3.rd, h3, g2.trans g3⟩
  · exact ⟨σ1.next, 2, 1, 1, rfl, push_eq, .inl ⟨rfl, rfl, rfl⟩, by omega, Nat.lt_succ_self _⟩
  · simp only [List.length_singleton]
    omega
theorem asg_eq (K : Knot) (s : Sy) : assignedT K s = (withName (K.or (wantS m_eq (nameS s).2).2).1 (nameS s).1, (K.or (wantS m_eq (nameS s).2).2).2) := rfl
theorem assigned_c {K : Knot} {d : Int} (hK : KOK K r b T d) : Reads (fun _ => True) 7 r b T d 105 [.pointer (some ⟨r, 0, none⟩)] (assignedT K) := by
  intro σ s he h
  have hlr := h.lr
  have hlb := h.lb
  rw [asg_eq]
  refine C_enter rfl Tryz.func105 rfl Tryz.ntmps105 Tryz.results105 (Nat.le_of_ble_eq_true rfl) ?_; intro A hz hA; have a0 := hA 0 _ rfl; clear hA
  repeat (first | apply s_R | apply o_n | ((first | apply o_p | (refine' o_g rfl rfl ?_ ?_; rotate_left) | apply w_c); (focus simp (disch := first | decide | (try simp only [zz, hz]) <;> omega | fail) only [go_sem, hz, a0] <;> rfl); with_reducible first | apply o_i | apply g_1 | apply g_2 | apply g_3 | apply g_4 | apply c_1 | apply c_2) | apply r_E | apply b_k | apply s_k | apply s_q)
  refine O_call (by simp (disch := first | decide | (try simp only [zz, hz]) <;> omega | fail) only [go_sem, hz, a0] <;> rfl) ?_
  refine C.mono (name_c word_c (h.kp ((Kp.refl σ).push _))) ?_
  rintro _ σ1 ⟨rfl, h1, g1⟩
  have nx1 := g1.next
  simp only [push_next] at nx1
  have gN1 := (g1.get σ.next (by first | omega | (simp only [push_next, set_next]; first | done | omega)) (by omega)).trans push_eq
  repeat (first | apply s_R | apply o_n | ((first | apply o_p | (refine' o_g rfl rfl ?_ ?_; rotate_left) | apply w_c); (focus simp (disch := first | decide | (try simp only [zz, hz]) <;> omega | fail) only [go_sem, hz, a0] <;> rfl); with_reducible first | apply o_i | apply g_1 | apply g_2 | apply g_3 | apply g_4 | apply c_1 | apply c_2) | apply r_E | apply b_k | apply s_k | apply s_q)
  refine O_call (by simp (disch := first | decide | (try simp only [zz, hz]) <;> omega | fail) only [go_sem, hz, a0] <;> rfl) ?_
  refine C.mono (want_c h1 m_eq) ?_
  rintro _ σ2 ⟨h2, g2⟩
  have nx2 := g2.next
  have gN2 := (g2.get σ.next (by omega) (by omega)).trans gN1
  repeat (first | apply s_R | apply o_n | ((first | apply o_p | (refine' o_g rfl rfl ?_ ?_; rotate_left) | apply w_c); (focus simp (disch := first | decide | (try simp only [zz, hz]) <;> omega | fail) only [go_sem, hz, a0] <;> rfl); with_reducible first | apply o_i | apply g_1 | apply g_2 | apply g_3 | apply g_4 | apply c_1 | apply c_2) | apply r_E | apply b_k | apply s_k | apply s_q)
  refine O_call (by simp (disch := first | decide | (try simp only [zz, hz]) <;> omega | fail) only [go_sem, hz, a0] <;> rfl) ?_
  refine C.mono (hK.or _ _ trivial h2) ?_
  rintro _ σ3 ⟨⟨t3, l3, rfl, hl3, ho3⟩, h3, g3⟩
  have t3 : TE 6 σ3 _ (.agg ⟨l3⟩) _ := ⟨t3, l3, rfl, hl3, ho3⟩
  have nx3 := g3.next
  have gN3 := (g3.get σ.next (by omega) (by omega)).trans gN2
  have hl5 : ∀ v, (l3 ++ [v]).length = 7 := fun v => by simp [hl3]
  have ht5 : ∀ v, (l3 ++ [v]).take 7 = l3 ++ [v] := fun v => List.take_of_length_le (Nat.le_of_eq (hl5 v))
  have ho5 : ∀ x, (l3 ++ [Value.string x]).all oneB = true := fun v => by simp [ho3, oneB]
  repeat (first | apply s_R | apply o_n | ((first | apply o_p | (refine' o_g rfl rfl ?_ ?_; rotate_left) | apply w_c); (focus simp (disch := first | decide | (try simp only [zz, hz]) <;> omega | fail) only [go_sem, hz, a0, gN3, bdI hl3, hl5, ho5] <;> rfl); with_reducible first | apply o_i | apply g_1 | apply g_2 | apply g_3 | apply g_4 | apply c_1 | apply c_2) | apply r_E | apply b_k | apply s_k | apply s_q)
  refine W_ret ?_; (try simp only [Then, Out, Jump, JumpL]); refine ret_mk (by simp (disch := first | decide | (try simp only [zz, hz]) <;> omega | fail) only [go_sem, hz, hl5, ht5] <;> rfl) ?_; (try simp only [resultA])
  exact post_fin ((Ow.refl _ _).set (Nat.le_refl _) _) ((g1.unpush.trans g2).trans g3) h3 hlr hlb (te_more ((t3.ks ((Ks.refl σ3).set (.inr (by rw [gN3])) _)).lo (fun k hk => by have := hk; omega)) (rd_str.2 rfl) rfl)
end
theorem modN_comm {α : Type} (d : α) (f g : α → α) : ∀ (n m : Nat) (l : List α), n ≠ m → modN d f (modN d g l n) m = modN d g (modN d f l m) n
  | 0, 0, _, h => absurd rfl h
  | 0, m + 1, [], _ => rfl
  | 0, m + 1, x :: l, _ => rfl
  | n + 1, 0, [], _ => rfl
  | n + 1, 0, x :: l, _ => rfl
  | n + 1, m + 1, [], h => congrArg (d :: ·) (modN_comm d f g n m [] (fun e => h (by rw [e])))
  | n + 1, m + 1, x :: l, h => congrArg (x :: ·) (modN_comm d f g n m l (fun e => h (by rw [e])))
theorem modN_same {α : Type} (d : α) (f g : α → α) : ∀ (n : Nat) (l : List α), modN d f (modN d g l n) n = modN d (fun x => f (g x)) l n
  | 0, [] => rfl
  | 0, x :: l => rfl
  | n + 1, [] => congrArg (d :: ·) (modN_same d f g n [])
  | n + 1, x :: l => congrArg (x :: ·) (modN_same d f g n l)
theorem set_comm {σ : AW} {i j : Nat} {x y : Blk} (h : i ≠ j) : (σ.set i x).set j y = (σ.set j y).set i x := by
  obtain ⟨n, rows⟩ := σ
  show AW.mk n _ = AW.mk n _
  congr 1
  simp only [AW.set]
  by_cases h1 : i / 64 = j / 64
  · rw [h1, modN_same, modN_same]
    congr 1
    funext r
    by_cases h2 : i / 8 % 8 = j / 8 % 8
    · rw [h2, modN_same, modN_same]
      congr 1
      funext q
      exact modN_comm _ _ _ _ _ _ (by omega)
    · exact modN_comm _ _ _ _ _ _ (by omega)
  · exact modN_comm _ _ _ _ _ _ (by omega)
end Go.Proofs.YtckidlbmoalomaaGreatDoor
