/- The program's reader: a whole expression. What is read is a tree of the kind that is asked for. -/
import Derived.Test.YtailfiofcicloaaGreatDoorR15
import Derived.Test.YtailfiofcicloaaGreatDoorR08

namespace Go.Proofs.YtailfiofcicloaaGreatDoor
open Go.RowKit
set_option maxRecDepth 10000
set_option linter.unusedSimpArgs false
set_option linter.unusedVariables false

section
variable {r b : Nat} {T : List Tk}
theorem expr1_c {d : Int} {m : SM Tr} (hf : Reads (fun _ => True) 6 r b T d 11 [.pointer (some ⟨r, 0, none⟩)] m) : Reads (fun _ => True) 6 r b T d 10 [.pointer (some ⟨r, 0, none⟩)] m := by
  intro σ s he h
  have hlr := h.lr
  have hlb := h.lb
  refine C_enter rfl Tryz.func10 rfl Tryz.ntmps10 Tryz.results10 (Nat.le_of_ble_eq_true rfl) ?_; intro A hz hA; have a0 := hA 0 _ rfl; clear hA
  repeat (first | refine W_seqR ?_ | refine Ops_nil ?_ | refine O_op rfl (by simp (disch := first | decide | omega | (simp only [put_size, hz, nx_push, nx_set]; first | done | omega)) only [go_sem, hz, a0]; first | done | rfl) ?_ | (refine O_gX rfl rfl (by simp (disch := first | decide | omega | (simp only [put_size, hz, nx_push, nx_set]; first | done | omega)) only [go_sem, hz, a0]; first | done | rfl) ?_; with_reducible first | refine gX_tt ?_ | refine gX_ff ?_ | refine gX_tf ?_ | refine gX_ft ?_ | refine gX_u ?_) | refine W_regE ?_ | refine W_block ?_ | (refine W_cX (by simp (disch := first | decide | omega | (simp only [put_size, hz, nx_push, nx_set]; first | done | omega)) only [go_sem, hz, a0]; first | done | rfl) ?_; with_reducible first | refine cX_t ?_ | refine cX_f ?_) | refine W_skip ?_ | refine W_seq ?_)
  refine O_call (by simp (disch := first | decide | omega | (simp only [put_size, hz, nx_push, nx_set]; first | done | omega)) only [go_sem, hz, a0]; first | done | rfl) ?_
  refine C.mono (hf _ _ trivial (h.kp ((Kp.refl σ).push _))) ?_
  rintro _ σ2 ⟨⟨t2, l, rfl, hl, ho⟩, h2, g2⟩
  have nx2 := g2.next
  simp only [push_next] at nx2
  have gN := (g2.get σ.next (by first | omega | (simp only [push_next, set_next]; first | done | omega)) (by omega)).trans push_eq
  repeat (first | refine W_seqR ?_ | refine Ops_nil ?_ | refine O_op rfl (by simp (disch := first | decide | omega | (simp only [put_size, hz, nx_push, nx_set]; first | done | omega)) only [go_sem, hz, a0, hl, ho, gN]; first | done | rfl) ?_ | (refine O_gX rfl rfl (by simp (disch := first | decide | omega | (simp only [put_size, hz, nx_push, nx_set]; first | done | omega)) only [go_sem, hz, a0, hl, ho, gN]; first | done | rfl) ?_; with_reducible first | refine gX_tt ?_ | refine gX_ff ?_ | refine gX_tf ?_ | refine gX_ft ?_ | refine gX_u ?_) | refine W_regE ?_ | refine W_block ?_ | (refine W_cX (by simp (disch := first | decide | omega | (simp only [put_size, hz, nx_push, nx_set]; first | done | omega)) only [go_sem, hz, a0, hl, ho, gN]; first | done | rfl) ?_; with_reducible first | refine cX_t ?_ | refine cX_f ?_) | refine W_skip ?_ | refine W_seq ?_)
  refine W_ret ?_; (try simp only [Then, Out, Jump, JumpL]); refine ret_mk (by simp (disch := first | decide | omega | (simp only [put_size, hz, nx_push, nx_set]; first | done | omega)) only [go_sem, hz, hl]; first | done | rfl) ?_; (try simp only [resultA])
  exact post_fin ((Ow.refl _ _).set (Nat.le_refl _) _) g2.unpush h2 hlr hlb ((TE.ks ⟨t2, l, rfl, hl, ho⟩ ((Ks.refl σ2).set (.inr (by rw [gN])) _)).lo (fun k hk => by have := hk; simp only [push_next] at this; omega))
/-- What a reader of a whole text looks at: which function reads, and the reader. -/
def WhE (r n0 n4 g : Nat) (σ : AW) : Prop := σ.get n0 = ⟨1, 51, 0, [.func (.func g) ⟨[]⟩ ⟨[]⟩]⟩ ∧ σ.get n4 = ⟨1, 49, 0, [.pointer (some ⟨r, 0, none⟩)]⟩ ∧ n0 < σ.next ∧ n4 < σ.next ∧ n0 ≠ r ∧ n4 ≠ r
theorem whE_stable (r n0 n4 g : Nat) : Stable r (WhE r n0 n4 g) := fun _ _ ⟨h1, h2, h3, h4, h5, h6⟩ g => ⟨(g.get _ h3 h5).trans h1, (g.get _ h4 h6).trans h2, Nat.lt_of_lt_of_le h3 g.next, Nat.lt_of_lt_of_le h4 g.next, h5, h6⟩
theorem whole1_c {d : Int} {m : SM Tr} {n0 n4 g : Nat} (hf : Reads (fun _ => True) 6 r b T d g [.pointer (some ⟨r, 0, none⟩)] m) : Reads (WhE r n0 n4 g) 6 r b T d 22 ([] ++ [.pointer (some ⟨n0, 0, none⟩), .pointer (some ⟨n4, 0, none⟩)]) m := by
  intro σ s he h
  obtain ⟨e1, e2, e3, e4, e5, e6⟩ := he
  have hlr := h.lr
  have hlb := h.lb
  refine C_enter rfl Tryz.func22 rfl Tryz.ntmps22 Tryz.results22 (Nat.le_of_ble_eq_true rfl) ?_; intro A hz hA; have a0 := hA 0 _ rfl; have a1 := hA 1 _ rfl; clear hA
  repeat (first | refine W_seqR ?_ | refine Ops_nil ?_ | refine O_op rfl (by simp (disch := first | decide | omega | (simp only [put_size, hz, nx_push, nx_set]; first | done | omega)) only [go_sem, hz, a0, a1, e1, e2]; first | done | rfl) ?_ | (refine O_gX rfl rfl (by simp (disch := first | decide | omega | (simp only [put_size, hz, nx_push, nx_set]; first | done | omega)) only [go_sem, hz, a0, a1, e1, e2]; first | done | rfl) ?_; with_reducible first | refine gX_tt ?_ | refine gX_ff ?_ | refine gX_tf ?_ | refine gX_ft ?_ | refine gX_u ?_) | refine W_regE ?_ | refine W_block ?_ | (refine W_cX (by simp (disch := first | decide | omega | (simp only [put_size, hz, nx_push, nx_set]; first | done | omega)) only [go_sem, hz, a0, a1, e1, e2]; first | done | rfl) ?_; with_reducible first | refine cX_t ?_ | refine cX_f ?_) | refine W_skip ?_ | refine W_seq ?_)
  refine O_call (by simp (disch := first | decide | omega | (simp only [put_size, hz, nx_push, nx_set]; first | done | omega)) only [go_sem, hz, a0, a1]; first | done | rfl) ?_
  refine C.mono (hf _ _ trivial (h.kp ((Kp.refl σ).push _))) ?_
  rintro _ σ2 ⟨⟨t2, l, rfl, hl, ho⟩, h2, g2⟩
  have nx2 := g2.next
  simp only [push_next] at nx2
  have gN := (g2.get σ.next (by first | omega | (simp only [push_next, set_next]; first | done | omega)) (by omega)).trans push_eq
  repeat (first | refine W_seqR ?_ | refine Ops_nil ?_ | refine O_op rfl (by simp (disch := first | decide | omega | (simp only [put_size, hz, nx_push, nx_set]; first | done | omega)) only [go_sem, hz, a0, hl, ho, gN]; first | done | rfl) ?_ | (refine O_gX rfl rfl (by simp (disch := first | decide | omega | (simp only [put_size, hz, nx_push, nx_set]; first | done | omega)) only [go_sem, hz, a0, hl, ho, gN]; first | done | rfl) ?_; with_reducible first | refine gX_tt ?_ | refine gX_ff ?_ | refine gX_tf ?_ | refine gX_ft ?_ | refine gX_u ?_) | refine W_regE ?_ | refine W_block ?_ | (refine W_cX (by simp (disch := first | decide | omega | (simp only [put_size, hz, nx_push, nx_set]; first | done | omega)) only [go_sem, hz, a0, hl, ho, gN]; first | done | rfl) ?_; with_reducible first | refine cX_t ?_ | refine cX_f ?_) | refine W_skip ?_ | refine W_seq ?_)
  refine W_ret ?_; (try simp only [Then, Out, Jump, JumpL]); refine ret_mk (by simp (disch := first | decide | omega | (simp only [put_size, hz, nx_push, nx_set]; first | done | omega)) only [go_sem, hz, hl]; first | done | rfl) ?_; (try simp only [resultA])
  exact post_fin ((Ow.refl _ _).set (Nat.le_refl _) _) g2.unpush h2 hlr hlb ((TE.ks ⟨t2, l, rfl, hl, ho⟩ ((Ks.refl σ2).set (.inr (by rw [gN])) _)).lo (fun k hk => by have := hk; simp only [push_next] at this; omega))
end
/-- What a text is: a tuple of a struct of n cells, a place, a number. -/
def WPost (n : Nat) (σ : AW) (p : Tr × Int × Int) (v : Value) (σ' : AW) : Prop := ∃ x, v = .tuple ⟨[x, .int .i64 p.2.1, .int .i64 p.2.2]⟩ ∧ TE n σ' (fun k => σ.next ≤ k) x p.1 ∧ Kp σ σ'
/-- What stands behind all that was read. -/
def endS (s : Sy) : Sy := if s.head.1 = 0 then s else (refuseS 10 s).2
theorem whole_eq {α : Type} (z : α) (m : SM α) (A : List Tk) (p : Nat) : wholeS z m (A, p, 0) = if (endS (m ⟨A, 0, 0⟩).2).err ≠ 0 then (z, (endS (m ⟨A, 0, 0⟩).2).pl, (endS (m ⟨A, 0, 0⟩).2).err) else ((m ⟨A, 0, 0⟩).1, 0, 0) := by
  have e : (do
      let x ← m
      let t ← headM
      if t.1 ≠ 0 then do
        refuseS 10
        pure x
      else pure x : SM α) ⟨A, 0, 0⟩ = ((m ⟨A, 0, 0⟩).1, endS (m ⟨A, 0, 0⟩).2) := by
    rw [SM.bind_run]
    generalize m ⟨A, 0, 0⟩ = q
    obtain ⟨x, s⟩ := q
    show (if s.head.1 ≠ 0 then (refuseS 10 >>= fun _ => pure x : SM α) else pure x) s = (x, endS s)
    unfold endS
    by_cases h : s.head.1 = 0
    · rw [if_neg (by simp [h]), if_pos h]; rfl
    · rw [if_pos h, if_neg h]; rfl
  unfold wholeS
  simp only [ne_eq, not_true_eq_false, if_false]
  rw [e]
theorem Kp.gr2 {r : Nat} {σ σ1 σ2 : AW} (h : Kp σ σ1) (g : Gr r σ1 σ2) (hr : σ.next ≤ r) : Kp σ σ2 := ⟨Nat.le_trans h.next g.next, fun k hk => (g.get k (Nat.lt_of_lt_of_le hk h.next) (by omega)).trans (h.get k hk)⟩
set_option maxHeartbeats 1600000 in
theorem whole_c {s : ByteArray} (hs : s.size ≤ 1000000) {g : Nat} {m : SM Tr} (hf : ∀ r b T, Reads (fun _ => True) 6 r b T 1 g [.pointer (some ⟨r, 0, none⟩)] m) (σ : AW) :
    C Tryz.prog 9 [.string s, .func (.func g) ⟨[]⟩ ⟨[]⟩] σ (WPost 6 σ (wholeS zE m (scanS s))) := by
  refine C_enter rfl Tryz.func9 rfl Tryz.ntmps9 Tryz.results9 (Nat.le_of_ble_eq_true rfl) ?_; intro A hz hA; have a0 := hA 0 _ rfl; have a1 := hA 1 _ rfl; clear hA
  repeat (first | refine W_seqR ?_ | refine Ops_nil ?_ | refine O_op rfl (by simp (disch := first | decide | omega | (simp only [put_size, hz, nx_push, nx_set]; first | done | omega)) only [go_sem, hz, a0, a1]; first | done | rfl) ?_ | (refine O_gX rfl rfl (by simp (disch := first | decide | omega | (simp only [put_size, hz, nx_push, nx_set]; first | done | omega)) only [go_sem, hz, a0, a1]; first | done | rfl) ?_; with_reducible first | refine gX_tt ?_ | refine gX_ff ?_ | refine gX_tf ?_ | refine gX_ft ?_ | refine gX_u ?_) | refine W_regE ?_ | refine W_block ?_ | (refine W_cX (by simp (disch := first | decide | omega | (simp only [put_size, hz, nx_push, nx_set]; first | done | omega)) only [go_sem, hz, a0, a1]; first | done | rfl) ?_; with_reducible first | refine cX_t ?_ | refine cX_f ?_) | refine W_skip ?_ | refine W_seq ?_)
  refine O_call (by simp (disch := first | decide | omega | (simp only [put_size, hz, nx_push, nx_set]; first | done | omega)) only [go_sem, hz, a0, a1]; first | done | rfl) ?_
  refine C.mono (scan_c _ s hs) ?_
  rintro _ _ (⟨h0, rfl, rfl⟩ | ⟨h0, rfl, rfl⟩)
  · have c1 : ((scanS s).2.2 != 0) = true := by simp [h0]
    repeat (first | refine W_seqR ?_ | refine Ops_nil ?_ | refine O_op rfl (by simp (disch := first | decide | omega | (simp only [put_size, hz, nx_push, nx_set]; first | done | omega)) only [go_sem, hz, a0, a1, c1]; first | done | rfl) ?_ | (refine O_gX rfl rfl (by simp (disch := first | decide | omega | (simp only [put_size, hz, nx_push, nx_set]; first | done | omega)) only [go_sem, hz, a0, a1, c1]; first | done | rfl) ?_; with_reducible first | refine gX_tt ?_ | refine gX_ff ?_ | refine gX_tf ?_ | refine gX_ft ?_ | refine gX_u ?_) | refine W_regE ?_ | refine W_block ?_ | (refine W_cX (by simp (disch := first | decide | omega | (simp only [put_size, hz, nx_push, nx_set]; first | done | omega)) only [go_sem, hz, a0, a1, c1]; first | done | rfl) ?_; with_reducible first | refine cX_t ?_ | refine cX_f ?_) | refine W_skip ?_ | refine W_seq ?_)
    refine W_ret ?_; (try simp only [Then, Out, Jump, JumpL]); refine ret_mk (by simp (disch := first | decide | omega | (simp only [put_size, hz, nx_push, nx_set]; first | done | omega)) only [go_sem, hz]; first | done | rfl) ?_; (try simp only [resultA])
    unfold wholeS
    rw [if_pos h0]
    exact ⟨_, rfl, te_mkE (rd_nil _ _ _) (rd_nil _ _ _), ((((Kp.refl σ).push _).push _).push _).set (by omega) _⟩
  · have c1 : ((scanS s).2.2 != 0) = false := by simp [h0]
    obtain ⟨⟨T0, e0, hT⟩, hlen⟩ := scanS_last s h0
    obtain ⟨p, hp⟩ : ∃ p, scanS s = ((scanS s).1, p, 0) := ⟨_, Prod.ext rfl (Prod.ext rfl h0)⟩
    rw [hp, whole_eq]
    clear hp
    have c2 : ((0 : Int) != 0) = false := rfl
    repeat (first | refine W_seqR ?_ | refine Ops_nil ?_ | refine O_op rfl (by simp (disch := first | decide | omega | (simp only [put_size, hz, nx_push, nx_set]; first | done | omega)) only [go_sem, hz, a0, a1, c1, c2]; first | done | rfl) ?_ | (refine O_gX rfl rfl (by simp (disch := first | decide | omega | (simp only [put_size, hz, nx_push, nx_set]; first | done | omega)) only [go_sem, hz, a0, a1, c1, c2]; first | done | rfl) ?_; with_reducible first | refine gX_tt ?_ | refine gX_ff ?_ | refine gX_tf ?_ | refine gX_ft ?_ | refine gX_u ?_) | refine W_regE ?_ | refine W_block ?_ | (refine W_cX (by simp (disch := first | decide | omega | (simp only [put_size, hz, nx_push, nx_set]; first | done | omega)) only [go_sem, hz, a0, a1, c1, c2]; first | done | rfl) ?_; with_reducible first | refine cX_t ?_ | refine cX_f ?_) | refine W_skip ?_ | refine W_seq ?_)
    refine O_call (by simp (disch := first | decide | omega | (simp only [put_size, hz, nx_push, nx_set]; first | done | omega)) only [go_sem, hz, a0, a1]; first | done | rfl) ?_
    generalize (scanS s).1 = T at *
    have hlast : ∀ t, T[T.length - 1]? = some t → t.1 = 0 := fun t ht => by
      rw [hT] at ht
      simp at ht
      rw [← ht]
    have hpos : 0 < T.length := by rw [hT]; simp
    have hd := deeperE_c (r := σ.next + 1 + 1 + 1 + 1) (b := σ.next + 1 + 1 + 1) (T := T) (fs := []) (cs := [.pointer (some ⟨σ.next, 0, none⟩), .pointer (some ⟨σ.next + 1 + 1 + 1 + 1 + 1, 0, none⟩)]) (whE_stable (σ.next + 1 + 1 + 1 + 1) σ.next (σ.next + 1 + 1 + 1 + 1 + 1) g) (d := 0) (by omega) (by omega) (fun _ => whole1_c (hf _ _ _))
    rw [if_neg (by decide)] at hd
    refine C.mono (hd _ ⟨T, 0, 0⟩ ⟨(by simp (disch := first | decide | omega | (simp only [put_size, hz, nx_push, nx_set]; first | done | omega)) only [go_sem, hz]; first | done | rfl), (by simp (disch := first | decide | omega | (simp only [put_size, hz, nx_push, nx_set]; first | done | omega)) only [go_sem, hz]; first | done | rfl), by first | omega | (simp only [push_next, set_next]; first | done | omega), by first | omega | (simp only [push_next, set_next]; first | done | omega), by omega, by omega⟩ ⟨0, ⟨(by simp (disch := first | decide | omega | (simp only [put_size, hz, nx_push, nx_set]; first | done | omega)) only [go_sem, hz]; first | done | rfl), (by simp (disch := first | decide | omega | (simp only [put_size, hz, nx_push, nx_set]; first | done | omega)) only [go_sem, hz]; first | done | rfl), by first | omega | (simp only [push_next, set_next]; first | done | omega), by first | omega | (simp only [push_next, set_next]; first | done | omega), hpos, by omega, hlast⟩, rfl⟩) ?_
    rintro _ σ2 ⟨⟨t2, l2, rfl, hl2, ho2⟩, h2, g2⟩
    have t2 : TE 6 σ2 _ (.agg ⟨l2⟩) _ := ⟨t2, l2, rfl, hl2, ho2⟩
    have nx2 := g2.next
    simp only [push_next, set_next] at nx2
    have gA2 : σ2.get (σ.next + 1) = ⟨1, 26, 0, [.int .i64 0, .int .i64 0, .string ⟨#[]⟩, .string ⟨#[]⟩, .slice none 0 0, .slice none 0 0]⟩ := (g2.get _ (by first | omega | (simp only [push_next, set_next]; first | done | omega)) (by omega)).trans (by simp (disch := first | decide | omega | (simp only [put_size, hz, nx_push, nx_set]; first | done | omega)) only [go_sem, hz]; first | done | rfl)
    have gB2 : σ2.get (σ.next + 1 + 1) = ⟨1, 26, 0, [.int .i64 0, .int .i64 0, .string ⟨#[]⟩, .string ⟨#[]⟩, .slice none 0 0, .slice none 0 0]⟩ := (g2.get _ (by first | omega | (simp only [push_next, set_next]; first | done | omega)) (by omega)).trans (by simp (disch := first | decide | omega | (simp only [put_size, hz, nx_push, nx_set]; first | done | omega)) only [go_sem, hz]; first | done | rfl)
    have gP2 : σ2.get (σ.next + 1 + 1 + 1 + 1 + 1) = ⟨1, 49, 0, [.pointer (some ⟨σ.next + 1 + 1 + 1 + 1, 0, none⟩)]⟩ := (g2.get _ (by first | omega | (simp only [push_next, set_next]; first | done | omega)) (by omega)).trans (by simp (disch := first | decide | omega | (simp only [put_size, hz, nx_push, nx_set]; first | done | omega)) only [go_sem, hz]; first | done | rfl)
    have kp2 : Kp σ σ2 := (((((((Kp.refl σ).push _).push _).push _).push _).push _).push _).set (by omega) _ |>.gr2 g2 (by omega)
    clear g2 hd
    generalize m ⟨T, 0, 0⟩ = q at *
    obtain ⟨x, s2⟩ := q
    simp only at h2 t2 ⊢
    obtain ⟨i2, r2, e2, ht2⟩ := h2.head
    have hr := r2.get
    have hb := r2.toks
    have hi := r2.li
    have e0 : elemAtA Tryz.prog 67 ⟨σ.next + 1 + 1 + 1, 4 * i2, none⟩ (T.length - i2) 0 = some (.pointer (some ⟨σ.next + 1 + 1 + 1, 4 * i2, none⟩)) := elem0 sz_67 (by omega)
    have hd2 := tok_0 ht2
    have h2r : ∀ B1 B2 : Blk, RdS ((σ2.push B1).set σ2.next B2) (σ.next + 1 + 1 + 1 + 1) (σ.next + 1 + 1 + 1) T 0 s2 := fun _ _ => h2.ow (((Ow.refl σ2.next σ2).push _).set (Nat.le_refl _) _) h2.lr h2.lb
    have k2 : ∀ B1 B2 : Blk, Ks σ2 ((σ2.push B1).set σ2.next B2) := fun _ _ => ((Ks.refl σ2).push _).set (.inl (Nat.le_refl _)) _
    have kp3 : ∀ B1 B2 : Blk, Kp σ ((σ2.push B1).set σ2.next B2) := fun _ _ => (kp2.push _).set (by omega) _
    repeat (first | refine W_seqR ?_ | refine Ops_nil ?_ | refine O_op rfl (by simp (disch := first | decide | omega | (simp only [put_size, hz, nx_push, nx_set]; first | done | omega)) only [go_sem, hz, a0, a1, hl2, ho2, gP2, hr, hb, hd2, e0]; first | done | rfl) ?_ | (refine O_gX rfl rfl (by simp (disch := first | decide | omega | (simp only [put_size, hz, nx_push, nx_set]; first | done | omega)) only [go_sem, hz, a0, a1, hl2, ho2, gP2, hr, hb, hd2, e0]; first | done | rfl) ?_; with_reducible first | refine gX_tt ?_ | refine gX_ff ?_ | refine gX_tf ?_ | refine gX_ft ?_ | refine gX_u ?_) | refine W_regE ?_ | refine W_block ?_ | (refine W_cX (by simp (disch := first | decide | omega | (simp only [put_size, hz, nx_push, nx_set]; first | done | omega)) only [go_sem, hz, a0, a1, hl2, ho2, gP2, hr, hb, hd2, e0]; first | done | rfl) ?_; with_reducible first | refine cX_t ?_ | refine cX_f ?_) | refine W_skip ?_ | refine W_seq ?_)
    refine W.mono (Q := fun e A' σ' => e = .normal ∧ A'.size = 55 ∧ A'.get 4 = some (.pointer (some ⟨σ.next + 1, 0, none⟩)) ∧ A'.get 7 = some (.pointer (some ⟨σ.next + 1 + 1, 0, none⟩)) ∧ A'.get 11 = some (.pointer (some ⟨σ.next + 1 + 1 + 1 + 1 + 1, 0, none⟩)) ∧ A'.get 12 = some (.pointer (some ⟨σ2.next, 0, none⟩)) ∧ RdS σ' (σ.next + 1 + 1 + 1 + 1) (σ.next + 1 + 1 + 1) T 0 (endS s2) ∧ σ'.get (σ.next + 1) = ⟨1, 26, 0, [.int .i64 0, .int .i64 0, .string ⟨#[]⟩, .string ⟨#[]⟩, .slice none 0 0, .slice none 0 0]⟩ ∧ σ'.get (σ.next + 1 + 1) = ⟨1, 26, 0, [.int .i64 0, .int .i64 0, .string ⟨#[]⟩, .string ⟨#[]⟩, .slice none 0 0, .slice none 0 0]⟩ ∧ σ'.get (σ.next + 1 + 1 + 1 + 1 + 1) = ⟨1, 49, 0, [.pointer (some ⟨σ.next + 1 + 1 + 1 + 1, 0, none⟩)]⟩ ∧ σ'.get σ2.next = ⟨1, 26, 0, l2⟩ ∧ Ks σ2 σ' ∧ Kp σ σ' ∧ σ2.next < σ'.next) ?_ ?_
    · unfold endS
      by_cases c : s2.head.1 = 0
      · have c2 : (s2.head.1 != 0) = false := by simp [c]
        rw [if_pos c]
        repeat (first | refine W_seqR ?_ | refine Ops_nil ?_ | refine O_op rfl (by simp (disch := first | decide | omega | (simp only [put_size, hz, nx_push, nx_set]; first | done | omega)) only [go_sem, hz, c2]; first | done | rfl) ?_ | (refine O_gX rfl rfl (by simp (disch := first | decide | omega | (simp only [put_size, hz, nx_push, nx_set]; first | done | omega)) only [go_sem, hz, c2]; first | done | rfl) ?_; with_reducible first | refine gX_tt ?_ | refine gX_ff ?_ | refine gX_tf ?_ | refine gX_ft ?_ | refine gX_u ?_) | refine W_regE ?_ | refine W_block ?_ | (refine W_cX (by simp (disch := first | decide | omega | (simp only [put_size, hz, nx_push, nx_set]; first | done | omega)) only [go_sem, hz, c2]; first | done | rfl) ?_; with_reducible first | refine cX_t ?_ | refine cX_f ?_) | refine W_skip ?_ | refine W_seq ?_)
        exact ⟨rfl, by simp (disch := first | decide | omega | (simp only [put_size, hz, nx_push, nx_set]; first | done | omega)) only [go_sem, hz]; first | done | rfl, by simp (disch := first | decide | omega | (simp only [put_size, hz, nx_push, nx_set]; first | done | omega)) only [go_sem, hz]; first | done | rfl, by simp (disch := first | decide | omega | (simp only [put_size, hz, nx_push, nx_set]; first | done | omega)) only [go_sem, hz]; first | done | rfl, by simp (disch := first | decide | omega | (simp only [put_size, hz, nx_push, nx_set]; first | done | omega)) only [go_sem, hz]; first | done | rfl, by simp (disch := first | decide | omega | (simp only [put_size, hz, nx_push, nx_set]; first | done | omega)) only [go_sem, hz]; first | done | rfl, h2r _ _, by simp (disch := first | decide | omega | (simp only [put_size, hz, nx_push, nx_set]; first | done | omega)) only [go_sem, hz, gA2]; first | done | rfl, by simp (disch := first | decide | omega | (simp only [put_size, hz, nx_push, nx_set]; first | done | omega)) only [go_sem, hz, gB2]; first | done | rfl, by simp (disch := first | decide | omega | (simp only [put_size, hz, nx_push, nx_set]; first | done | omega)) only [go_sem, hz, gP2]; first | done | rfl, by simp (disch := first | decide | omega | (simp only [put_size, hz, nx_push, nx_set]; first | done | omega)) only [go_sem, hz]; first | done | rfl, k2 _ _, kp3 _ _, by first | omega | (simp only [push_next, set_next]; first | done | omega)⟩
      · have c2 : (s2.head.1 != 0) = true := by simp [c]
        rw [if_neg c]
        repeat (first | refine W_seqR ?_ | refine Ops_nil ?_ | refine O_op rfl (by simp (disch := first | decide | omega | (simp only [put_size, hz, nx_push, nx_set]; first | done | omega)) only [go_sem, hz, c2, gP2]; first | done | rfl) ?_ | (refine O_gX rfl rfl (by simp (disch := first | decide | omega | (simp only [put_size, hz, nx_push, nx_set]; first | done | omega)) only [go_sem, hz, c2, gP2]; first | done | rfl) ?_; with_reducible first | refine gX_tt ?_ | refine gX_ff ?_ | refine gX_tf ?_ | refine gX_ft ?_ | refine gX_u ?_) | refine W_regE ?_ | refine W_block ?_ | (refine W_cX (by simp (disch := first | decide | omega | (simp only [put_size, hz, nx_push, nx_set]; first | done | omega)) only [go_sem, hz, c2, gP2]; first | done | rfl) ?_; with_reducible first | refine cX_t ?_ | refine cX_f ?_) | refine W_skip ?_ | refine W_seq ?_)
        refine O_call (by simp (disch := first | decide | omega | (simp only [put_size, hz, nx_push, nx_set]; first | done | omega)) only [go_sem, hz, gP2]; first | done | rfl) ?_
        refine C.mono (refuse_c (h2r _ _) 10) ?_
        rintro _ σ3 ⟨h3, g3⟩
        have nx3 := g3.next
        simp only [push_next, set_next] at nx3
        repeat (first | refine W_seqR ?_ | refine Ops_nil ?_ | refine O_op rfl (by simp (disch := first | decide | omega | (simp only [put_size, hz, nx_push, nx_set]; first | done | omega)) only [go_sem, hz]; first | done | rfl) ?_ | (refine O_gX rfl rfl (by simp (disch := first | decide | omega | (simp only [put_size, hz, nx_push, nx_set]; first | done | omega)) only [go_sem, hz]; first | done | rfl) ?_; with_reducible first | refine gX_tt ?_ | refine gX_ff ?_ | refine gX_tf ?_ | refine gX_ft ?_ | refine gX_u ?_) | refine W_regE ?_ | refine W_block ?_ | (refine W_cX (by simp (disch := first | decide | omega | (simp only [put_size, hz, nx_push, nx_set]; first | done | omega)) only [go_sem, hz]; first | done | rfl) ?_; with_reducible first | refine cX_t ?_ | refine cX_f ?_) | refine W_skip ?_ | refine W_seq ?_)
        exact ⟨rfl, by simp (disch := first | decide | omega | (simp only [put_size, hz, nx_push, nx_set]; first | done | omega)) only [go_sem, hz]; first | done | rfl, by simp (disch := first | decide | omega | (simp only [put_size, hz, nx_push, nx_set]; first | done | omega)) only [go_sem, hz]; first | done | rfl, by simp (disch := first | decide | omega | (simp only [put_size, hz, nx_push, nx_set]; first | done | omega)) only [go_sem, hz]; first | done | rfl, by simp (disch := first | decide | omega | (simp only [put_size, hz, nx_push, nx_set]; first | done | omega)) only [go_sem, hz]; first | done | rfl, by simp (disch := first | decide | omega | (simp only [put_size, hz, nx_push, nx_set]; first | done | omega)) only [go_sem, hz]; first | done | rfl, h3, (g3.get _ (by first | omega | (simp only [push_next, set_next]; first | done | omega)) (by omega)).trans (by simp (disch := first | decide | omega | (simp only [put_size, hz, nx_push, nx_set]; first | done | omega)) only [go_sem, hz, gA2]; first | done | rfl), (g3.get _ (by first | omega | (simp only [push_next, set_next]; first | done | omega)) (by omega)).trans (by simp (disch := first | decide | omega | (simp only [put_size, hz, nx_push, nx_set]; first | done | omega)) only [go_sem, hz, gB2]; first | done | rfl), (g3.get _ (by first | omega | (simp only [push_next, set_next]; first | done | omega)) (by omega)).trans (by simp (disch := first | decide | omega | (simp only [put_size, hz, nx_push, nx_set]; first | done | omega)) only [go_sem, hz, gP2]; first | done | rfl), (g3.get _ (by first | omega | (simp only [push_next, set_next]; first | done | omega)) (by omega)).trans (by simp (disch := first | decide | omega | (simp only [put_size, hz, nx_push, nx_set]; first | done | omega)) only [go_sem, hz]; first | done | rfl), (k2 _ _).trans (g3.ks (h2r _ _).ez), (kp3 _ _).gr2 g3 (by omega), by omega⟩
    rintro _ A σ3 ⟨rfl, hz, a4, a7, a11, a12, h3, gA3, gB3, gP3, gM3, k3, kp3, nx3⟩
    simp only [Then]
    clear e0 hd2 hr hb hi r2 e2 ht2 h2r k2 h2
    generalize endS s2 = s3 at *
    obtain ⟨i3, r3, e3, ht3⟩ := h3.head
    have hr := r3.get
    by_cases c : s3.err = 0
    · have c2 : (s3.err != 0) = false := by simp [c]
      rw [if_neg (by simp [c])]
      repeat (first | refine W_seqR ?_ | refine Ops_nil ?_ | refine O_op rfl (by simp (disch := first | decide | omega | (simp only [put_size, hz, nx_push, nx_set]; first | done | omega)) only [go_sem, hz, a4, a7, a11, a12, gA3, gP3, gM3, hr, c2, hl2, ho2]; first | done | rfl) ?_ | (refine O_gX rfl rfl (by simp (disch := first | decide | omega | (simp only [put_size, hz, nx_push, nx_set]; first | done | omega)) only [go_sem, hz, a4, a7, a11, a12, gA3, gP3, gM3, hr, c2, hl2, ho2]; first | done | rfl) ?_; with_reducible first | refine gX_tt ?_ | refine gX_ff ?_ | refine gX_tf ?_ | refine gX_ft ?_ | refine gX_u ?_) | refine W_regE ?_ | refine W_block ?_ | (refine W_cX (by simp (disch := first | decide | omega | (simp only [put_size, hz, nx_push, nx_set]; first | done | omega)) only [go_sem, hz, a4, a7, a11, a12, gA3, gP3, gM3, hr, c2, hl2, ho2]; first | done | rfl) ?_; with_reducible first | refine cX_t ?_ | refine cX_f ?_) | refine W_skip ?_ | refine W_seq ?_)
      refine W_ret ?_; (try simp only [Then, Out, Jump, JumpL]); refine ret_mk (by simp (disch := first | decide | omega | (simp only [put_size, hz, nx_push, nx_set]; first | done | omega)) only [go_sem, hz, a4, hl2]; first | done | rfl) ?_; (try simp only [resultA])
      exact ⟨_, rfl, ((t2.ks k3).ks ((Ks.refl σ3).set (.inr (by rw [gA3])) _)).lo (fun k hk => by have := hk; simp only [push_next, set_next] at this; omega), kp3.set (by omega) _⟩
    · have c2 : (s3.err != 0) = true := by simp [c]
      rw [if_pos c]
      repeat (first | refine W_seqR ?_ | refine Ops_nil ?_ | refine O_op rfl (by simp (disch := first | decide | omega | (simp only [put_size, hz, nx_push, nx_set]; first | done | omega)) only [go_sem, hz, a4, a7, a11, a12, gA3, gP3, gM3, hr, c2]; first | done | rfl) ?_ | (refine O_gX rfl rfl (by simp (disch := first | decide | omega | (simp only [put_size, hz, nx_push, nx_set]; first | done | omega)) only [go_sem, hz, a4, a7, a11, a12, gA3, gP3, gM3, hr, c2]; first | done | rfl) ?_; with_reducible first | refine gX_tt ?_ | refine gX_ff ?_ | refine gX_tf ?_ | refine gX_ft ?_ | refine gX_u ?_) | refine W_regE ?_ | refine W_block ?_ | (refine W_cX (by simp (disch := first | decide | omega | (simp only [put_size, hz, nx_push, nx_set]; first | done | omega)) only [go_sem, hz, a4, a7, a11, a12, gA3, gP3, gM3, hr, c2]; first | done | rfl) ?_; with_reducible first | refine cX_t ?_ | refine cX_f ?_) | refine W_skip ?_ | refine W_seq ?_)
      refine W_regDE mixed (by kernel_rfl) (by kernel_rfl) ?_
      repeat (refine V_x rfl (by simp (disch := first | decide | omega | (simp only [put_size, hz, nx_push, nx_set]; first | done | omega)) only [go_sem, hz, a4, a7, a11, a12, gA3, gB3, gP3, hr]; first | done | rfl) ?_; first | refine vX_n ?_ | refine vX_l ?_ | refine vX_e ?_)
      refine V_nil ?_; refine And.intro (owes_by (L := [(0, 0), (1, 0), (1, 10), (4, 0), (4, 10), (5, 0), (5, 10), (8, 0), (8, 10)]) ?_ ?_) ?_; rotate_left 2; (try simp only [Then, Out, JumpL]); rotate_right 2; focus (kernel_rfl)
      · (repeat (refine owe_cons (Owed_op rfl rfl rfl rfl rfl (by simp (disch := first | decide | omega | (simp only [put_size, hz, nx_push, nx_set]; first | done | omega)) only [go_sem, hz, a4, a7, a11, a12, gA3, gB3, gP3, hr]; first | done | rfl)) ?_)); exact owe_nil
      refine W_ret ?_; (try simp only [Then, Out, Jump, JumpL]); refine ret_mk (by simp (disch := first | decide | omega | (simp only [put_size, hz, nx_push, nx_set]; first | done | omega)) only [go_sem, hz, a4]; first | done | rfl) ?_; (try simp only [resultA])
      exact ⟨_, rfl, te_mkE (rd_nil _ _ _) (rd_nil _ _ _), kp3.set (by omega) _⟩
/-- What Expr comes to. -/
theorem exprF_c {s : ByteArray} (hs : s.size ≤ 1000000) (σ : AW) : C Tryz.prog 5 [.string s] σ (WPost 6 σ (exprOf s)) := by
  refine C_enter rfl Tryz.func5 rfl Tryz.ntmps5 Tryz.results5 (Nat.le_of_ble_eq_true rfl) ?_; intro A hz hA; have a0 := hA 0 _ rfl; clear hA
  repeat (first | refine W_seqR ?_ | refine Ops_nil ?_ | refine O_op rfl (by simp (disch := first | decide | omega | (simp only [put_size, hz, nx_push, nx_set]; first | done | omega)) only [go_sem, hz, a0]; first | done | rfl) ?_ | (refine O_gX rfl rfl (by simp (disch := first | decide | omega | (simp only [put_size, hz, nx_push, nx_set]; first | done | omega)) only [go_sem, hz, a0]; first | done | rfl) ?_; with_reducible first | refine gX_tt ?_ | refine gX_ff ?_ | refine gX_tf ?_ | refine gX_ft ?_ | refine gX_u ?_) | refine W_regE ?_ | refine W_block ?_ | (refine W_cX (by simp (disch := first | decide | omega | (simp only [put_size, hz, nx_push, nx_set]; first | done | omega)) only [go_sem, hz, a0]; first | done | rfl) ?_; with_reducible first | refine cX_t ?_ | refine cX_f ?_) | refine W_skip ?_ | refine W_seq ?_)
  refine O_call (by simp (disch := first | decide | omega | (simp only [put_size, hz, nx_push, nx_set]; first | done | omega)) only [go_sem, hz, a0]; first | done | rfl) ?_
  refine C.mono (whole_c hs (m := orS (knot 39)) (fun r b T => expr1_c (level_or word_c (knot_c word_c 39 1 (by decide) (by decide))).2.2.1) _) ?_
  rintro _ σ1 ⟨x, rfl, t1, k1⟩
  have nx1 := k1.next
  simp only [push_next] at nx1
  obtain ⟨t1, l, rfl, hl, ho⟩ := t1
  have gN1 : σ1.get σ.next = _ := (k1.get σ.next (by first | omega | (simp only [push_next, set_next]; first | done | omega))).trans push_eq
  repeat (first | refine W_seqR ?_ | refine Ops_nil ?_ | refine O_op rfl (by simp (disch := first | decide | omega | (simp only [put_size, hz, nx_push, nx_set]; first | done | omega)) only [go_sem, hz, a0, hl, ho, gN1]; first | done | rfl) ?_ | (refine O_gX rfl rfl (by simp (disch := first | decide | omega | (simp only [put_size, hz, nx_push, nx_set]; first | done | omega)) only [go_sem, hz, a0, hl, ho, gN1]; first | done | rfl) ?_; with_reducible first | refine gX_tt ?_ | refine gX_ff ?_ | refine gX_tf ?_ | refine gX_ft ?_ | refine gX_u ?_) | refine W_regE ?_ | refine W_block ?_ | (refine W_cX (by simp (disch := first | decide | omega | (simp only [put_size, hz, nx_push, nx_set]; first | done | omega)) only [go_sem, hz, a0, hl, ho, gN1]; first | done | rfl) ?_; with_reducible first | refine cX_t ?_ | refine cX_f ?_) | refine W_skip ?_ | refine W_seq ?_)
  refine W_ret ?_; (try simp only [Then, Out, Jump, JumpL]); refine ret_mk (by simp (disch := first | decide | omega | (simp only [put_size, hz, nx_push, nx_set]; first | done | omega)) only [go_sem, hz, hl]; first | done | rfl) ?_; (try simp only [resultA])
  exact ⟨_, rfl, (TE.ks ⟨t1, l, rfl, hl, ho⟩ ((Ks.refl σ1).set (.inr (by rw [gN1])) _)).lo (fun k hk => by have := hk; simp only [push_next] at this; omega), ⟨by rw [set_next]; omega, fun k hk => by rw [set_ne (by omega), k1.get k (by rw [push_next]; omega), push_ne (by omega)]⟩⟩
end Go.Proofs.YtailfiofcicloaaGreatDoor

namespace Go.Proofs.YtailfiofcicloaaGreatDoor

/-- A list of not too many things that all have a property. -/
def AllL (P : Tr → Prop) (l : List Tr) : Prop := l.length ≤ 200000 ∧ ∀ x ∈ l, P x
theorem AllL.mono {P Q : Tr → Prop} {l : List Tr} (h : AllL P l) (k : ∀ x, P x → Q x) : AllL Q l := ⟨h.1, fun x hx => k x (h.2 x hx)⟩
theorem AllL.nil (P : Tr → Prop) : AllL P [] := ⟨by simp, fun x hx => absurd hx (by simp)⟩
def isText (x : Tr) : Prop := ∃ s, x = .string s
/-- A tree of a kind, no deeper than so much: 0 an expression, 1 a query, 2 a source, 3 a statement. -/
def wf : Nat → Nat → Tr → Prop
  | 0, _, _ => False
  | n + 1, 0, p => ∃ k m s t kids qs, p = mkE k m s t kids qs ∧ AllL (wf n 0) kids ∧ AllL (wf n 1) qs
  | n + 1, 1, p => ∃ k d m items froms wh gr ha or kids, p = mkQ k d m items froms wh gr ha or kids ∧ AllL (fun x => ∃ e s, x = withName e s ∧ wf n 0 e) items ∧ AllL (wf n 2) froms ∧ AllL (wf n 0) wh ∧ AllL (wf n 0) gr ∧ AllL (wf n 0) ha ∧ AllL (fun x => ∃ e b, x = withFlag e b ∧ wf n 0 e) or ∧ AllL (wf n 1) kids
  | n + 1, 2, p => ∃ k v t a q kids on, p = mkF k v t a q kids on ∧ AllL (wf n 1) q ∧ AllL (wf n 2) kids ∧ AllL (wf n 0) on
  | n + 1, 3, p => ∃ k a t names es qs wh body other, p = mkS k a t names es qs wh body other ∧ AllL isText names ∧ AllL (wf n 0) es ∧ AllL (wf n 1) qs ∧ AllL (wf n 0) wh ∧ AllL (wf n 3) body ∧ AllL (wf n 3) other
  | _ + 1, _ + 4, _ => False
theorem wf_succ : ∀ (n k : Nat) (p : Tr), wf n k p → wf (n + 1) k p
  | 0, _, _, h => h.elim
  | n + 1, 0, _, ⟨k, m, s, t, kids, qs, e, h1, h2⟩ => ⟨k, m, s, t, kids, qs, e, h1.mono (wf_succ n 0), h2.mono (wf_succ n 1)⟩
  | n + 1, 1, _, ⟨k, d, m, items, froms, wh, gr, ha, or, kids, e, h1, h2, h3, h4, h5, h6, h7⟩ => ⟨k, d, m, items, froms, wh, gr, ha, or, kids, e, h1.mono (fun _ ⟨a, s, e, h⟩ => ⟨a, s, e, wf_succ n 0 a h⟩), h2.mono (wf_succ n 2), h3.mono (wf_succ n 0), h4.mono (wf_succ n 0), h5.mono (wf_succ n 0), h6.mono (fun _ ⟨a, s, e, h⟩ => ⟨a, s, e, wf_succ n 0 a h⟩), h7.mono (wf_succ n 1)⟩
  | n + 1, 2, _, ⟨k, v, t, a, q, kids, on, e, h1, h2, h3⟩ => ⟨k, v, t, a, q, kids, on, e, h1.mono (wf_succ n 1), h2.mono (wf_succ n 2), h3.mono (wf_succ n 0)⟩
  | n + 1, 3, _, ⟨k, a, t, names, es, qs, wh, body, other, e, h0, h1, h2, h3, h4, h5⟩ => ⟨k, a, t, names, es, qs, wh, body, other, e, h0, h1.mono (wf_succ n 0), h2.mono (wf_succ n 1), h3.mono (wf_succ n 0), h4.mono (wf_succ n 3), h5.mono (wf_succ n 3)⟩
theorem wf_le {n m k : Nat} {p : Tr} (h : wf n k p) (hm : n ≤ m) : wf m k p := by
  induction hm with
  | refl => exact h
  | step _ ih => exact wf_succ _ _ _ ih
/-- A tree of a kind. -/
def Wf (k : Nat) (p : Tr) : Prop := ∃ n, wf n k p
def WfL (k : Nat) (l : List Tr) : Prop := AllL (Wf k) l
def WfI (l : List Tr) : Prop := AllL (fun x => ∃ e s, x = withName e s ∧ Wf 0 e) l
def WfO (l : List Tr) : Prop := AllL (fun x => ∃ e b, x = withFlag e b ∧ Wf 0 e) l
theorem all_get {Q : Nat → Tr → Prop} (hm : ∀ n m x, Q n x → n ≤ m → Q m x) {l : List Tr} (h : AllL (fun x => ∃ n, Q n x) l) : ∃ n, AllL (Q n) l := by
  have key : ∀ {l : List Tr}, (∀ x ∈ l, ∃ n, Q n x) → ∃ n, ∀ x ∈ l, Q n x := by
    intro l
    induction l with
    | nil => exact fun _ => ⟨0, fun x hx => absurd hx (by simp)⟩
    | cons y l ih =>
      intro h
      obtain ⟨n, hn⟩ := h y (List.mem_cons_self ..)
      obtain ⟨m, hm'⟩ := ih (fun x hx => h x (List.mem_cons_of_mem _ hx))
      refine ⟨n + m, fun x hx => ?_⟩
      cases hx with
      | head => exact hm _ _ _ hn (Nat.le_add_right ..)
      | tail _ hx => exact hm _ _ _ (hm' x hx) (Nat.le_add_left ..)
  obtain ⟨n, hn⟩ := key h.2
  exact ⟨n, h.1, hn⟩
theorem wfL_get {k : Nat} {l : List Tr} (h : WfL k l) : ∃ n, AllL (wf n k) l := all_get (Q := fun n x => wf n k x) (fun _ _ _ h hm => wf_le h hm) h
theorem wfI_get {l : List Tr} (h : WfI l) : ∃ n, AllL (fun x => ∃ e s, x = withName e s ∧ wf n 0 e) l :=
  all_get (Q := fun n x => ∃ e s, x = withName e s ∧ wf n 0 e) (fun _ _ _ ⟨e, s, h1, h2⟩ hm => ⟨e, s, h1, wf_le h2 hm⟩) (h.mono (fun _ ⟨e, s, h1, n, h2⟩ => ⟨n, e, s, h1, h2⟩))
theorem wfO_get {l : List Tr} (h : WfO l) : ∃ n, AllL (fun x => ∃ e b, x = withFlag e b ∧ wf n 0 e) l :=
  all_get (Q := fun n x => ∃ e b, x = withFlag e b ∧ wf n 0 e) (fun _ _ _ ⟨e, s, h1, h2⟩ hm => ⟨e, s, h1, wf_le h2 hm⟩) (h.mono (fun _ ⟨e, s, h1, n, h2⟩ => ⟨n, e, s, h1, h2⟩))
theorem wfL_nil (k : Nat) : WfL k [] := AllL.nil _
theorem all_one {P : Tr → Prop} {x : Tr} (h : P x) : AllL P [x] := ⟨by simp, fun y hy => by simp only [List.mem_singleton] at hy; rw [hy]; exact h⟩
theorem wfL_one {k : Nat} {x : Tr} (h : Wf k x) : WfL k [x] := all_one h
theorem wfL_two {k : Nat} {x y : Tr} (h : Wf k x) (h' : Wf k y) : WfL k [x, y] := ⟨by simp, fun z hz => by
  simp only [List.mem_cons, List.not_mem_nil, or_false] at hz
  rcases hz with rfl | rfl
  · exact h
  · exact h'⟩
theorem wf_E {k m : Int} {s t : ByteArray} {kids qs : List Tr} (h1 : WfL 0 kids) (h2 : WfL 1 qs) : Wf 0 (mkE k m s t kids qs) := by
  obtain ⟨n1, h1⟩ := wfL_get h1
  obtain ⟨n2, h2⟩ := wfL_get h2
  exact ⟨n1 + n2 + 1, k, m, s, t, kids, qs, rfl, h1.mono (fun _ h => wf_le h (by omega)), h2.mono (fun _ h => wf_le h (by omega))⟩
theorem wf_Q {k : Int} {d : Bool} {m : Int} {items froms wh gr ha or kids : List Tr} (h1 : WfI items) (h2 : WfL 2 froms) (h3 : WfL 0 wh) (h4 : WfL 0 gr) (h5 : WfL 0 ha) (h6 : WfO or) (h7 : WfL 1 kids) : Wf 1 (mkQ k d m items froms wh gr ha or kids) := by
  obtain ⟨n1, h1⟩ := wfI_get h1
  obtain ⟨n2, h2⟩ := wfL_get h2
  obtain ⟨n3, h3⟩ := wfL_get h3
  obtain ⟨n4, h4⟩ := wfL_get h4
  obtain ⟨n5, h5⟩ := wfL_get h5
  obtain ⟨n6, h6⟩ := wfO_get h6
  obtain ⟨n7, h7⟩ := wfL_get h7
  exact ⟨n1 + n2 + n3 + n4 + n5 + n6 + n7 + 1, k, d, m, items, froms, wh, gr, ha, or, kids, rfl, h1.mono (fun _ ⟨a, b, q, w⟩ => ⟨a, b, q, wf_le w (by omega)⟩), h2.mono (fun _ h => wf_le h (by omega)), h3.mono (fun _ h => wf_le h (by omega)), h4.mono (fun _ h => wf_le h (by omega)), h5.mono (fun _ h => wf_le h (by omega)), h6.mono (fun _ ⟨a, b, q, w⟩ => ⟨a, b, q, wf_le w (by omega)⟩), h7.mono (fun _ h => wf_le h (by omega))⟩
theorem wf_F {k : Int} {v : Bool} {t a : ByteArray} {q kids on : List Tr} (h1 : WfL 1 q) (h2 : WfL 2 kids) (h3 : WfL 0 on) : Wf 2 (mkF k v t a q kids on) := by
  obtain ⟨n1, h1⟩ := wfL_get h1
  obtain ⟨n2, h2⟩ := wfL_get h2
  obtain ⟨n3, h3⟩ := wfL_get h3
  exact ⟨n1 + n2 + n3 + 1, k, v, t, a, q, kids, on, rfl, h1.mono (fun _ h => wf_le h (by omega)), h2.mono (fun _ h => wf_le h (by omega)), h3.mono (fun _ h => wf_le h (by omega))⟩
theorem wf_S {k a : Int} {t : ByteArray} {names es qs wh body other : List Tr} (h0 : AllL isText names) (h1 : WfL 0 es) (h2 : WfL 1 qs) (h3 : WfL 0 wh) (h4 : WfL 3 body) (h5 : WfL 3 other) : Wf 3 (mkS k a t names es qs wh body other) := by
  obtain ⟨n1, h1⟩ := wfL_get h1
  obtain ⟨n2, h2⟩ := wfL_get h2
  obtain ⟨n3, h3⟩ := wfL_get h3
  obtain ⟨n4, h4⟩ := wfL_get h4
  obtain ⟨n5, h5⟩ := wfL_get h5
  exact ⟨n1 + n2 + n3 + n4 + n5 + 1, k, a, t, names, es, qs, wh, body, other, rfl, h0, h1.mono (fun _ h => wf_le h (by omega)), h2.mono (fun _ h => wf_le h (by omega)), h3.mono (fun _ h => wf_le h (by omega)), h4.mono (fun _ h => wf_le h (by omega)), h5.mono (fun _ h => wf_le h (by omega))⟩

/-- A reader of not too many tokens yields what has a property. -/
def Yl {α : Type} (m : SM α) (P : α → Prop) : Prop := ∀ σ, σ.left.length ≤ 100000 → P (m σ).1 ∧ (m σ).2.left.length ≤ 100000
section
variable {α β : Type} {P : α → Prop} {Q : β → Prop}
theorem Yl.bind {m : SM α} {k : α → SM β} (h : Yl m P) (hk : ∀ a, P a → Yl (k a) Q) : Yl (m >>= k) Q := fun σ hs => hk _ (h σ hs).1 _ (h σ hs).2
theorem Yl.any {m : SM α} {k : α → SM β} (hk : ∀ a, Yl (k a) Q) (hm : Shr m := by first | exact Shr.head | exact Shr.sees _ | exact Shr.take _ | exact Shr.takeKind _ | exact Shr.want _ | exact Shr.refuse _ | exact Shr.takeAny _ | exact Shr.name | exact Shr.number | exact shr_together _ | exact shr_limit | exact Shr.name.list _) : Yl (m >>= k) Q := fun σ hs => hk _ _ (Nat.le_trans (hm σ) hs)
theorem Yl.pure {a : α} (h : P a) : Yl (Pure.pure a : SM α) P := fun _ hs => ⟨h, hs⟩
theorem Yl.ite {c : Prop} [Decidable c] {m n : SM α} (h : Yl m P) (h' : Yl n P) : Yl (if c then m else n) P := by
  split
  · exact h
  · exact h'
theorem Yl.mono {P' : α → Prop} {m : SM α} (h : Yl m P) (k : ∀ a, P a → P' a) : Yl m P' := fun σ hs => ⟨k _ (h σ hs).1, (h σ hs).2⟩
/-- With a number that goes down in each round. -/
theorem Yl.loopN {I : Nat → α → Prop} {s : α → SM (Option α)} (h : ∀ n a, I (n + 1) a → Yl (s a) (fun o => ∀ b, o = some b → I n b)) (hz : ∀ n a, I n a → P a) : ∀ (f : Nat) (x : α), I f x → Yl (loopS s f x) P
  | 0, x, hx => .pure (hz 0 x hx)
  | f + 1, x, hx => (h f x hx).bind fun o ho => by
      cases o with
      | none => exact .pure (hz _ x hx)
      | some y => exact Yl.loopN h hz f y (ho y rfl)
theorem Yl.whileN {I : Nat → α → Prop} {s : α → SM (Option α)} (h : ∀ n a, I (n + 1) a → Yl (s a) (fun o => ∀ b, o = some b → I n b)) (hz : ∀ n a, I n a → P a) {x : α} (hx : ∀ n, n ≤ 100000 → I n x) : Yl (whileS s x) P := fun σ hs => Yl.loopN h hz σ.left.length x (hx _ hs) σ hs
theorem Yl.while {s : α → SM (Option α)} (h : ∀ a, P a → Yl (s a) (fun o => ∀ b, o = some b → P b)) {x : α} (hx : P x) : Yl (whileS s x) P := Yl.whileN (I := fun _ => P) (fun _ => h) (fun _ _ h => h) (fun _ _ => hx)
theorem Yl.fromLeft {I : Tr → Prop} {m : Tr → ByteArray → SM Tr} (h : ∀ a b, I a → Yl (m a b) I) (l : List ByteArray) {x : Tr} (hx : I x) : Yl (fromLeftS m l x) I :=
  Yl.while (fun a ha => Yl.any fun o => by
    cases o with
    | none => exact .pure (fun b hb => by cases hb)
    | some y => exact (h a y ha).bind fun z hz => .pure (fun b hb => by injection hb with hb; subst hb; exact hz)) hx
theorem all_snoc {n : Nat} {P : α → Prop} {l : List α} {y : α} (h : l.length + (n + 1) ≤ 200000 ∧ ∀ a ∈ l, P a) (hy : P y) : (l ++ [y]).length + n ≤ 200000 ∧ ∀ a ∈ l ++ [y], P a := by
  refine ⟨by rw [List.length_append]; simp; omega, fun a ha => ?_⟩
  rcases List.mem_append.1 ha with ha | ha
  · exact h.2 a ha
  · simp only [List.mem_singleton] at ha; rw [ha]; exact hy
theorem Yl.each {r : SM α} (h : Yl r P) (x : ByteArray) {l : List α} (hn : l.length ≤ 100000) (hl : ∀ a ∈ l, P a) : Yl (eachS x r l) (fun l => l.length ≤ 200000 ∧ ∀ a ∈ l, P a) :=
  Yl.whileN (I := fun n l => l.length + n ≤ 200000 ∧ ∀ a ∈ l, P a) (fun n l hl => Yl.any fun _ => .ite (h.bind fun y hy => .pure (fun b hb => by
    injection hb with hb
    subst hb
    exact all_snoc hl hy)) (.pure (fun b hb => by cases hb))) (fun n l h => ⟨by omega, h.2⟩) (fun n hn' => ⟨by omega, hl⟩)
theorem Yl.list {r : SM α} (h : Yl r P) (x : ByteArray) : Yl (listS x r) (fun l => l.length ≤ 200000 ∧ ∀ a ∈ l, P a) := h.bind fun y hy => h.each x (by simp) (fun a ha => by simp only [List.mem_singleton] at ha; rw [ha]; exact hy)
theorem Yl.behind {r : SM α} (h : Yl r P) (x : ByteArray) : Yl (behindS x r) (fun l => l.length ≤ 200000 ∧ ∀ a ∈ l, P a) := Yl.any fun _ => .ite (h.bind fun y hy => .pure ⟨by simp, fun a ha => by simp only [List.mem_singleton] at ha; rw [ha]; exact hy⟩) (.pure ⟨by simp, fun a ha => absurd ha (by simp)⟩)
theorem Yl.inBrackets {r : SM α} (h : Yl r P) : Yl (inBracketsS r) P := Yl.any fun _ => h.bind fun _ hx => Yl.any fun _ => .pure hx
theorem Yl.listInBrackets {r : SM α} (h : Yl r P) : Yl (listInBracketsS r) (fun l => l.length ≤ 200000 ∧ ∀ a ∈ l, P a) := Yl.inBrackets (Yl.any fun _ => .ite (.pure ⟨by simp, fun a ha => absurd ha (by simp)⟩) (h.list _))
end
structure YlK (K : Knot) : Prop where
  or : Yl K.or (Wf 0)
  not : Yl K.not (Wf 0)
  unary : Yl K.unary (Wf 0)
  parts : Yl K.parts (Wf 1)
  block : Yl K.block (WfL 3)
theorem wf_zE : Wf 0 zE := wf_E (wfL_nil _) (wfL_nil _)
theorem wfI_nil : WfI [] := AllL.nil _
theorem wfO_nil : WfO [] := AllL.nil _
theorem wf_zQ : Wf 1 zQ := wf_Q wfI_nil (wfL_nil _) (wfL_nil _) (wfL_nil _) (wfL_nil _) wfO_nil (wfL_nil _)
section
variable {K : Knot} (h : YlK K)
include h
omit h in
theorem Yl.operands {r : SM Tr} (hr : Yl r (Wf 0)) (l : List ByteArray) : Yl (operandsS r l) (Wf 0) := hr.bind fun _ hx => .fromLeft (fun _ _ ha => hr.bind fun _ hy => .pure (wf_E (wfL_two ha hy) (wfL_nil _))) _ hx
theorem yl_choice : Yl (choiceS K) (Wf 0) := Yl.any fun _ => h.or.bind fun _ h1 => Yl.any fun _ => h.or.bind fun _ h2 => Yl.any fun _ => h.or.bind fun _ h3 => Yl.any fun _ => .pure (wf_E ⟨by simp, fun x hx => by
  simp only [List.mem_cons, List.not_mem_nil, or_false] at hx
  rcases hx with rfl | rfl | rfl <;> assumption⟩ (wfL_nil _))
theorem yl_gathered (s : ByteArray) : Yl (gatheredS K s) (WfL 0) := Yl.inBrackets (.ite (Yl.any fun _ => .ite (.pure (wfL_nil _)) (h.or.bind fun _ hx => .pure (wfL_one hx))) (h.or.bind fun _ hx => .pure (wfL_one hx)))
theorem yl_named : Yl (namedS K) (Wf 0) := Yl.any fun _ => Yl.any fun _ => .ite (Yl.any fun _ => .pure (wf_E (wfL_nil _) (wfL_nil _))) (.ite (Yl.any fun _ => .ite ((yl_gathered h _).bind fun _ hl => .pure (wf_E hl (wfL_nil _))) (.pure (wf_E (wfL_nil _) (wfL_nil _)))) (.pure (wf_E (wfL_nil _) (wfL_nil _))))
theorem yl_bracketed : Yl (bracketedS K) (Wf 0) := Yl.any fun _ => .ite (h.parts.bind fun _ hq => .pure (wf_E (wfL_nil _) (wfL_one hq))) h.or
theorem yl_prim : Yl (primS K) (Wf 0) := Yl.any fun _ => Yl.any fun _ => .ite (.pure (wf_E (wfL_nil _) (wfL_nil _))) (Yl.any fun _ => .ite (.pure (wf_E (wfL_nil _) (wfL_nil _))) (Yl.any fun _ => .ite (.pure (wf_E (wfL_nil _) (wfL_nil _))) (Yl.any fun _ => .ite (.pure (wf_E (wfL_nil _) (wfL_nil _))) (Yl.any fun _ => .ite (.pure (wf_E (wfL_nil _) (wfL_nil _))) (Yl.any fun _ => .ite (Yl.any fun _ => .pure (wf_E (wfL_nil _) (wfL_nil _))) (Yl.any fun _ => .ite (yl_choice h) (Yl.any fun _ => .ite (h.parts.inBrackets.bind fun _ hq => .pure (wf_E (wfL_nil _) (wfL_one hq))) (Yl.any fun _ => .ite (yl_bracketed h).inBrackets (yl_named h)))))))))
theorem yl_unary : Yl (unaryS K) (Wf 0) := Yl.any fun _ => .ite (h.unary.bind fun _ hx => .pure (wf_E (wfL_one hx) (wfL_nil _))) (yl_prim h)
theorem yl_sum : Yl (sumS K) (Wf 0) := Yl.operands (Yl.operands (yl_unary h) _) _
theorem yl_in {x : Tr} (hx : Wf 0 x) (n : Int) : Yl (inS K x n) (Wf 0) := Yl.any fun _ => h.parts.inBrackets.bind fun _ hq => .pure (wf_E (wfL_one hx) (wfL_one hq))
theorem yl_compared : Yl (comparedS K) (Wf 0) := (yl_sum h).bind fun _ hx => Yl.any fun o => by
  cases o with
  | some m => exact (yl_sum h).bind fun _ hy => .pure (wf_E (wfL_two hx hy) (wfL_nil _))
  | none => exact Yl.any fun _ => .ite (Yl.any fun _ => Yl.any fun _ => .pure (wf_E (wfL_one hx) (wfL_nil _))) (Yl.any fun _ => .ite (yl_in h hx _) (Yl.any fun _ => .ite (yl_in h hx _) (.pure hx)))
theorem yl_not : Yl (notS K) (Wf 0) := Yl.any fun _ => .ite (h.not.bind fun _ hx => .pure (wf_E (wfL_one hx) (wfL_nil _))) (yl_compared h)
theorem yl_or : Yl (orS K) (Wf 0) := Yl.operands (Yl.operands (yl_not h) _) _
theorem yl_item : Yl (itemS K) (fun x => ∃ e s, x = withName e s ∧ Wf 0 e) := h.or.bind fun _ hx => Yl.any fun _ => Yl.any fun _ => .pure ⟨_, _, rfl, hx⟩
theorem yl_key : Yl (keyS K) (fun x => ∃ e b, x = withFlag e b ∧ Wf 0 e) := h.or.bind fun _ hx => Yl.any fun _ => .pure ⟨_, _, rfl, hx⟩
theorem yl_one : Yl (oneS K) (Wf 2) := Yl.any fun _ => .ite (h.parts.inBrackets.bind fun _ hq => Yl.any fun _ => Yl.any fun _ => .pure (wf_F (wfL_one hq) (wfL_nil _) (wfL_nil _))) (Yl.any fun _ => Yl.any fun _ => Yl.any fun _ => .ite (Yl.any fun _ => .pure (wf_F (wfL_nil _) (wfL_nil _) (wfL_nil _))) (.pure (wf_F (wfL_nil _) (wfL_nil _) (wfL_nil _))))
theorem yl_join {x : Tr} (hx : Wf 2 x) (n : Int) : Yl (joinS K x n) (Wf 2) := (yl_one h).bind fun _ hy => Yl.any fun _ => h.or.bind fun _ he => .pure (wf_F (wfL_nil _) (wfL_two hx hy) (wfL_one he))
theorem yl_source : Yl (sourceS K) (Wf 2) := (yl_one h).bind fun _ hx => .fromLeft (fun _ _ ha => .ite (Yl.any fun _ => yl_join h ha _) (yl_join h ha _)) _ hx
theorem yl_group : Yl (groupS K) (fun p => WfL 0 p.1 ∧ WfL 0 p.2) := Yl.any fun _ => .ite (Yl.any fun _ => (h.or.list _).bind fun _ hg => (h.or.behind _).bind fun _ hh => .pure ⟨hg, hh⟩) (.pure ⟨wfL_nil _, wfL_nil _⟩)
theorem yl_order : Yl (orderS K) WfO := Yl.any fun _ => .ite (Yl.any fun _ => (yl_key h).list _) (.pure wfO_nil)
theorem yl_part : Yl (partS K) (Wf 1) := Yl.any fun _ => .ite h.parts.inBrackets (Yl.any fun _ => Yl.any fun _ => ((yl_item h).list _).bind fun _ h1 => ((yl_source h).behind _).bind fun _ h2 => (h.or.behind _).bind fun _ h3 => (yl_group h).bind fun _ h4 => (yl_order h).bind fun _ h5 => Yl.any fun _ => .pure (wf_Q h1 h2 h3 h4.1 h4.2 h5 (wfL_nil _)))
theorem yl_parts : Yl (partsS K) (Wf 1) := (yl_part h).bind fun _ hx => .fromLeft (fun _ _ ha => Yl.any fun _ => (yl_part h).bind fun _ hy => .pure (wf_Q wfI_nil (wfL_nil _) (wfL_nil _) (wfL_nil _) (wfL_nil _) wfO_nil (wfL_two ha hy))) _ hx
omit h in
theorem names_nil : AllL isText [] := AllL.nil _
omit h in
theorem names_one (s : ByteArray) : AllL isText [nameT s] := all_one ⟨s, rfl⟩
omit h in
theorem all_map {α : Type} {P : Tr → Prop} {Q : α → Prop} {f : α → Tr} {l : List α} (h : l.length ≤ 200000 ∧ ∀ a ∈ l, Q a) (k : ∀ a, Q a → P (f a)) : AllL P (l.map f) := ⟨by rw [List.length_map]; exact h.1, fun x hx => by
  obtain ⟨p, hp, rfl⟩ := List.mem_map.1 hx
  exact k p (h.2 p hp)⟩
omit h in
theorem yl_name : Yl nameS (fun _ => True) := fun σ hs => ⟨trivial, Nat.le_trans (Shr.name σ) hs⟩
theorem yl_assigned : Yl (assignedS K) (fun p => Wf 0 p.2) := Yl.any fun _ => Yl.any fun _ => h.or.bind fun _ hx => .pure hx
theorem yl_plain (k a : Int) : Yl (plainS K k a) (Wf 3) :=
  .ite ((yl_assigned h).bind fun _ hp => .pure (wf_S (names_one _) (wfL_one hp) (wfL_nil _) (wfL_nil _) (wfL_nil _) (wfL_nil _)))
  (.ite (Yl.any fun _ => .pure (wf_S (names_one _) (wfL_nil _) (wfL_nil _) (wfL_nil _) (wfL_nil _) (wfL_nil _)))
  (.ite (Yl.any fun _ => h.or.bind fun _ hx => .pure (wf_S names_nil (wfL_one hx) (wfL_nil _) (wfL_nil _) (wfL_nil _) (wfL_nil _)))
  (.ite (Yl.any fun _ => Yl.any fun _ => Yl.any fun _ => .ite ((h.or.list _).inBrackets.bind fun _ hl => .pure (wf_S names_nil hl (wfL_nil _) (wfL_nil _) (wfL_nil _) (wfL_nil _))) (h.parts.bind fun _ hq => .pure (wf_S names_nil (wfL_nil _) (wfL_one hq) (wfL_nil _) (wfL_nil _) (wfL_nil _))))
  (.ite (Yl.any fun _ => Yl.any fun _ => ((yl_assigned h).list _).bind fun l hl => (h.or.behind _).bind fun _ hw => .pure (wf_S (all_map hl (fun p _ => ⟨p.1, rfl⟩)) (all_map hl (fun _ h => h)) (wfL_nil _) hw (wfL_nil _) (wfL_nil _)))
  (.ite (Yl.any fun _ => Yl.any fun _ => (h.or.behind _).bind fun _ hw => .pure (wf_S names_nil (wfL_nil _) (wfL_nil _) hw (wfL_nil _) (wfL_nil _)))
  (.ite (Yl.any fun _ => h.or.listInBrackets.bind fun _ hl => .pure (wf_S names_nil hl (wfL_nil _) (wfL_nil _) (wfL_nil _) (wfL_nil _)))
  (.pure (wf_S names_nil (wfL_nil _) (wfL_nil _) (wfL_nil _) (wfL_nil _) (wfL_nil _)))))))))
theorem yl_fill (k a : Int) : Yl (fillS K k a) (Wf 3) :=
  .ite (h.or.bind fun _ hx => h.block.bind fun _ hb => Yl.any fun _ => .ite (h.block.bind fun _ hc => .pure (wf_S names_nil (wfL_one hx) (wfL_nil _) (wfL_nil _) hb hc)) (.pure (wf_S names_nil (wfL_one hx) (wfL_nil _) (wfL_nil _) hb (wfL_nil _))))
  (.ite (h.or.bind fun _ hx => h.block.bind fun _ hb => .pure (wf_S names_nil (wfL_one hx) (wfL_nil _) (wfL_nil _) hb (wfL_nil _)))
  (.ite ((yl_name.list _).bind fun l hl => Yl.any fun _ => h.parts.bind fun _ hq => h.block.bind fun _ hb => .pure (wf_S (all_map hl (fun p _ => ⟨p, rfl⟩)) (wfL_nil _) (wfL_one hq) (wfL_nil _) hb (wfL_nil _)))
  (.ite (h.block.bind fun _ hb => Yl.any fun _ => h.block.bind fun _ hc => .pure (wf_S names_nil (wfL_nil _) (wfL_nil _) (wfL_nil _) hb hc))
  ((yl_plain h _ _).bind fun _ hs => Yl.any fun _ => .pure hs))))
theorem yl_stmts : Yl (stmtsS K) (WfL 3) :=
  Yl.whileN (I := fun n l => l.length + n ≤ 200000 ∧ ∀ a ∈ l, Wf 3 a) (fun n l hl => Yl.any fun _ => .ite (.pure (fun b hb => by cases hb)) (Yl.any fun _ => .ite ((yl_fill h _ _).bind fun s hs => .pure (fun b hb => by
    injection hb with hb
    subst hb
    exact all_snoc hl hs)) (.pure (fun b hb => by cases hb)))) (fun n l h => ⟨by omega, h.2⟩) (fun n hn => ⟨by simp; omega, fun a ha => absurd ha (by simp)⟩)
theorem yl_block : Yl (blockS K) (WfL 3) := Yl.any fun _ => (yl_stmts h).bind fun _ hl => Yl.any fun _ => .pure hl
end
theorem Yl.deep {α : Type} {P : α → Prop} {z : α} (hz : P z) : Yl (tooDeep z) P := Yl.any fun _ => .pure hz
theorem yl_knot : ∀ n : Nat, YlK (knot n)
  | 0 => ⟨.deep wf_zE, .deep wf_zE, .deep wf_zE, .deep wf_zQ, .deep (wfL_nil _)⟩
  | n + 1 => ⟨yl_or (yl_knot n), yl_not (yl_knot n), yl_unary (yl_knot n), yl_parts (yl_knot n), yl_block (yl_knot n)⟩
theorem whole_wf {α : Type} {P : α → Prop} {z : α} {m : SM α} (hz : P z) (h : Yl m P) (ts : List Tk × Nat × Int) (hts : ts.1.length ≤ 100000) : P (wholeS z m ts).1 := by
  have : Yl (do
      let x ← m
      let t ← headM
      if t.1 ≠ 0 then do
        refuseS 10
        pure x
      else pure x : SM α) P := h.bind fun x hx => Yl.any fun _ => .ite (Yl.any fun _ => .pure hx) (.pure hx)
  unfold wholeS
  split
  · exact hz
  · simp only
    split
    · exact hz
    · exact (this _ hts).1
theorem expr_wf {s : ByteArray} (hs : (scanS s).1.length ≤ 100000) : Wf 0 (exprOf s).1 := whole_wf wf_zE (yl_knot 40).or _ hs
theorem query_wf {s : ByteArray} (hs : (scanS s).1.length ≤ 100000) : Wf 1 (queryOf s).1 := whole_wf wf_zQ (yl_knot 40).parts _ hs
end Go.Proofs.YtailfiofcicloaaGreatDoor
