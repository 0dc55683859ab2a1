/- The text of an expression, in brackets: the expression, or too deep, or too many tokens. SyntaxRound: an expression in brackets is the expression. From a contract to a row that lists variables, with the shape of the world that the call begins in. -/
import Derived.Test.YtailfiofcicloaaGreatDoorR20
import Derived.Test.YtailfiofcicloaaGreatDoorR17
import Derived.Test.YtailfiofcicloaaGreatDoorR19
import Derived.Test.YtailfiofcicloaaGreatDoorChecked
import Derived.Handed
import Derived.ProofKit

namespace Go.Proofs.YtailfiofcicloaaGreatDoor

theorem whole_place {α : Type} (z : α) (r : SM α) (A : List Tk) (p : Nat) : wholeS z r (A, p, 0) = wholeS z r (A, 0, 0) := by simp [wholeS]
theorem whole_err {α : Type} (z : α) (r : SM α) (A : List Tk) (p : Nat) {e : Int} (he : e ≠ 0) : wholeS z r (A, p, e) = (z, (p : Int), e) := by simp [wholeS, he]
theorem one_lp (r : List UInt8) : oneL (40 :: r) = .inl (4, [40], 0, 1) := by
  simp [oneL, oneC, letterB, digitB, marksL, List.find?, List.isPrefixOf]
theorem expr_round {s s2 : ByteArray} (hs : s.size ≤ 9000) (hs2 : s2.size ≤ 20000) (h2 : s2.data.toList = 40 :: (s.data.toList ++ [10, 41])) {x : Tr} (hx : exprOf s = (x, 0, 0)) : (exprOf s2).2.2 = 9 ∨ (exprOf s2).2.2 = 8 ∨ exprOf s2 = (x, 0, 0) := by
  unfold exprOf at hx ⊢
  obtain ⟨n, hn⟩ : ∃ n, knot 40 = knot (n + 2) := ⟨38, rfl⟩
  rw [hn] at hx ⊢
  clear hn
  have h0 : (scanS s).2.2 = 0 := by
    generalize scanS s = ts at hx
    obtain ⟨A, p, e⟩ := ts
    by_cases he : e = 0
    · exact he
    · rw [whole_err _ _ _ _ he] at hx
      exact absurd (congrArg (fun q => q.2.2) hx) he
  obtain ⟨A, p, hA⟩ : ∃ A p, scanS s = (A, p, 0) := ⟨_, _, Prod.ext rfl (Prod.ext rfl h0)⟩
  rw [hA, whole_place] at hx
  have hF : scanF (s.data.toList.length + 1) s.data.toList 0 0 = (A, p, 0) := (scanS_eq (by omega)).symm.trans hA
  obtain ⟨T, e, h3, h4, h5⟩ := scan_join 1 _ _ 0 0 1 1 A p rfl hF
  have hscan : scanS s2 = aheadT [((4, ⟨#[40]⟩, 0, 0) : Tk)] (scanR (s.data.toList ++ [10, 41]) 1 1) := by
    rw [scanS_eq hs2, h2, scanR_one (by decide) (by simp), one_lp]
    simp only
    rw [if_neg (by decide)]
    rfl
  rw [hscan]
  generalize scanR (s.data.toList ++ [10, 41]) 1 1 = ts at h5
  rcases h5 with h8 | ⟨a, b, hab⟩
  · right; left
    obtain ⟨B, q, e8⟩ := ts
    have h8 : e8 = 8 := h8
    subst h8
    rw [show aheadT [((4, ⟨#[40]⟩, 0, 0) : Tk)] (B, q, 8) = ([], q, 8) from rfl, whole_err _ _ _ _ (by decide)]
  · rw [hab, show aheadT [((4, ⟨#[40]⟩, 0, 0) : Tk)] (T.map (shT ((1 : Nat) : Int)) ++ [(4, ⟨#[41]⟩, 0, a), (0, ⟨#[]⟩, 0, b)], 0, 0) = ((4, ⟨#[40]⟩, 0, 0) :: (T.map (shT ((1 : Nat) : Int)) ++ [(4, ⟨#[41]⟩, 0, a), (0, ⟨#[]⟩, 0, b)]), 0, 0) from rfl]
    rw [h3] at hx
    have hfin := round_pure (d := ((1 : Nat) : Int)) (lp := (4, ⟨#[40]⟩, 0, 0)) (rp := (4, ⟨#[41]⟩, 0, a)) (e' := (0, ⟨#[]⟩, 0, b)) rfl rfl h4 rfl rfl rfl rfl rfl hx
    generalize wholeS zE (knot (n + 2)).or _ = W at hfin ⊢
    rcases hfin with h | h
    · exact .inl h
    · exact .inr (.inr h)
end Go.Proofs.YtailfiofcicloaaGreatDoor

namespace Go.Proofs.YtailfiofcicloaaGreatDoor
open Go.RowKit
set_option maxRecDepth 10000
set_option linter.unusedSimpArgs false
set_option linter.unusedVariables false

theorem whole_ok {α : Type} {z : α} {m : SM α} {ts : List Tk × Nat × Int} (h : (wholeS z m ts).2.2 = 0) : (wholeS z m ts).2.1 = 0 := by
  unfold wholeS at h ⊢
  split at h
  · rename_i h1
    exact absurd h h1
  · rename_i h1
    rw [if_neg h1]
    simp only at h ⊢
    split at h
    · rename_i h2
      exact absurd h h2
    · rename_i h2
      rw [if_neg h2]
theorem scan_few (s : ByteArray) : (scanS s).1.length ≤ 100000 := by
  by_cases h : (scanS s).2.2 = 0
  · have := (scanS_last s h).2
    omega
  · rw [scanS_bad s h]
    simp
theorem TE.tt {n : Nat} {σ : AW} {D : Nat → Prop} {v p : Value} (h : TE n σ D v p) : Rd σ TT v p → Rd σ TT v p := id
set_option maxHeartbeats 1600000 in
theorem round_c (s : ByteArray) (hs : s.size ≤ 9223372036854775807) (σ : AW) : C Tryz.prog 3 [.string s] σ fun v σ' => v = .bool true ∧ Kp σ σ' := by
  refine C_enter rfl Tryz.func3 rfl Tryz.ntmps3 Tryz.results3 (Nat.le_of_ble_eq_true rfl) ?_; intro A hz hA; have a0 := hA 0 _ rfl; clear hA
  by_cases h9 : 9000 < s.size
  · have c1 : decide ((9000 : Int) < (s.size : Int)) = true := by simp; omega
    repeat (first | refine W_seqR ?_ | refine Ops_nil ?_ | refine O_op rfl (by simp (disch := first | decide | omega | (simp only [put_size, hz, nx_push, nx_set]; first | done | omega)) only [go_sem, hz, a0, c1]; first | done | rfl) ?_ | (refine O_gX rfl rfl (by simp (disch := first | decide | omega | (simp only [put_size, hz, nx_push, nx_set]; first | done | omega)) only [go_sem, hz, a0, c1]; first | done | rfl) ?_; with_reducible first | refine gX_tt ?_ | refine gX_ff ?_ | refine gX_tf ?_ | refine gX_ft ?_ | refine gX_u ?_) | refine W_regE ?_ | refine W_block ?_ | (refine W_cX (by simp (disch := first | decide | omega | (simp only [put_size, hz, nx_push, nx_set]; first | done | omega)) only [go_sem, hz, a0, c1]; first | done | rfl) ?_; with_reducible first | refine cX_t ?_ | refine cX_f ?_) | refine W_skip ?_ | refine W_seq ?_)
    refine O_call (by simp (disch := first | decide | omega | (simp only [put_size, hz, nx_push, nx_set]; first | done | omega)) only [go_sem, hz]; first | done | rfl) ?_
    refine C.mono (syr_c _) ?_
    rintro _ _ ⟨rfl, rfl⟩
    repeat (first | refine W_seqR ?_ | refine Ops_nil ?_ | refine O_op rfl (by simp (disch := first | decide | omega | (simp only [put_size, hz, nx_push, nx_set]; first | done | omega)) only [go_sem, hz]; first | done | rfl) ?_ | (refine O_gX rfl rfl (by simp (disch := first | decide | omega | (simp only [put_size, hz, nx_push, nx_set]; first | done | omega)) only [go_sem, hz]; first | done | rfl) ?_; with_reducible first | refine gX_tt ?_ | refine gX_ff ?_ | refine gX_tf ?_ | refine gX_ft ?_ | refine gX_u ?_) | refine W_regE ?_ | refine W_block ?_ | (refine W_cX (by simp (disch := first | decide | omega | (simp only [put_size, hz, nx_push, nx_set]; first | done | omega)) only [go_sem, hz]; first | done | rfl) ?_; with_reducible first | refine cX_t ?_ | refine cX_f ?_) | refine W_skip ?_ | refine W_seq ?_)
    refine W_ret ?_; (try simp only [Then, Out, Jump, JumpL]); refine ret_mk (by simp (disch := first | decide | omega | (simp only [put_size, hz, nx_push, nx_set]; first | done | omega)) only [go_sem, hz]; first | done | rfl) ?_; (try simp only [resultA])
    exact ⟨by first | rfl | trivial, Kp.refl _⟩
  have c1 : decide ((9000 : Int) < (s.size : Int)) = false := by simp; omega
  repeat (first | refine W_seqR ?_ | refine Ops_nil ?_ | refine O_op rfl (by simp (disch := first | decide | omega | (simp only [put_size, hz, nx_push, nx_set]; first | done | omega)) only [go_sem, hz, a0, c1]; first | done | rfl) ?_ | (refine O_gX rfl rfl (by simp (disch := first | decide | omega | (simp only [put_size, hz, nx_push, nx_set]; first | done | omega)) only [go_sem, hz, a0, c1]; first | done | rfl) ?_; with_reducible first | refine gX_tt ?_ | refine gX_ff ?_ | refine gX_tf ?_ | refine gX_ft ?_ | refine gX_u ?_) | refine W_regE ?_ | refine W_block ?_ | (refine W_cX (by simp (disch := first | decide | omega | (simp only [put_size, hz, nx_push, nx_set]; first | done | omega)) only [go_sem, hz, a0, c1]; first | done | rfl) ?_; with_reducible first | refine cX_t ?_ | refine cX_f ?_) | refine W_skip ?_ | refine W_seq ?_)
  refine O_call (by simp (disch := first | decide | omega | (simp only [put_size, hz, nx_push, nx_set]; first | done | omega)) only [go_sem, hz, a0]; first | done | rfl) ?_
  refine C.mono (exprF_c (by omega) σ) ?_
  rintro _ σ1 ⟨_, rfl, ⟨t1, l1, rfl, hl1, ho1⟩, k1⟩
  have nx1 := k1.next
  have e1 : ((1 : Nat) + s.size) ≤ 9223372036854775807 := by omega
  obtain ⟨s2, hs2⟩ : ∃ s2 : ByteArray, s2 = ⟨#[40]⟩ ++ s ++ ⟨#[10, 41]⟩ := ⟨_, rfl⟩
  have z1 : (#[40] : Array UInt8).size + s.size ≤ 9223372036854775807 := by show 1 + s.size ≤ _; omega
  have z2 : (#[40] : Array UInt8).size + s.size + (#[10, 41] : Array UInt8).size ≤ 9223372036854775807 := by show 1 + s.size + 2 ≤ _; omega
  have z3 : s2.size ≤ 9003 := by rw [hs2, ByteArray.size_append, ByteArray.size_append]; show 1 + s.size + 2 ≤ _; omega
  repeat (first | refine W_seqR ?_ | refine Ops_nil ?_ | refine O_op rfl (by simp (disch := first | decide | omega | (simp only [put_size, hz, nx_push, nx_set]; first | done | omega)) only [go_sem, hz, a0, hl1, ho1, z1, z2]; first | done | rfl) ?_ | (refine O_gX rfl rfl (by simp (disch := first | decide | omega | (simp only [put_size, hz, nx_push, nx_set]; first | done | omega)) only [go_sem, hz, a0, hl1, ho1, z1, z2]; first | done | rfl) ?_; with_reducible first | refine gX_tt ?_ | refine gX_ff ?_ | refine gX_tf ?_ | refine gX_ft ?_ | refine gX_u ?_) | refine W_regE ?_ | refine W_block ?_ | (refine W_cX (by simp (disch := first | decide | omega | (simp only [put_size, hz, nx_push, nx_set]; first | done | omega)) only [go_sem, hz, a0, hl1, ho1, z1, z2]; first | done | rfl) ?_; with_reducible first | refine cX_t ?_ | refine cX_f ?_) | refine W_skip ?_ | refine W_seq ?_)
  rw [← hs2]
  have hround : (exprOf s).2.2 = 0 → (exprOf s2).2.2 = 9 ∨ (exprOf s2).2.2 = 8 ∨ exprOf s2 = ((exprOf s).1, 0, 0) := fun h0 => by
    refine expr_round (s := s) (by omega) (by omega) (by rw [hs2]; simp [ByteArray.data_append]) ?_
    have h1 : (exprOf s).2.1 = 0 := whole_ok h0
    exact Prod.ext rfl (Prod.ext h1 h0)
  have hwf := expr_wf (s := s) (scan_few s)
  refine O_call (by simp (disch := first | decide | omega | (simp only [put_size, hz, nx_push, nx_set]; first | done | omega)) only [go_sem, hz, a0]; first | done | rfl) ?_
  have kq1 := (k1.push ⟨1, 26, 0, [.int .i64 0, .int .i64 0, .string ⟨#[]⟩, .string ⟨#[]⟩, .slice none 0 0, .slice none 0 0]⟩).set nx1 ⟨1, 26, 0, l1⟩
  refine C.mono (exprF_c (by omega) _) ?_
  rintro _ σ2 ⟨_, rfl, ⟨t2, l2, rfl, hl2, ho2⟩, k2⟩
  have nx2 := k2.next
  simp only [push_next, set_next] at nx2
  have u1 : Rd σ2 TT (exprOf s).1 (.agg ⟨l1⟩) := ((t1.ks (((Ks.refl σ1).push ⟨1, 26, 0, [.int .i64 0, .int .i64 0, .string ⟨#[]⟩, .string ⟨#[]⟩, .slice none 0 0, .slice none 0 0]⟩).set (.inl (Nat.le_refl _)) ⟨1, 26, 0, l1⟩)).ks k2.ks).lo (fun _ _ => trivial)
  have u2 : Rd σ2 TT (exprOf s2).1 (.agg ⟨l2⟩) := t2.lo (fun _ _ => trivial)
  have gA : σ2.get σ1.next = ⟨1, 26, 0, l1⟩ := (k2.get _ (by first | omega | (simp only [push_next, set_next]; first | done | omega))).trans set_eq
  have kq2 := kq1.trans k2
  clear k1 k2 t1 t2
  generalize exprOf s = p at *
  generalize exprOf s2 = q at *
  obtain ⟨x, pl, e⟩ := p
  obtain ⟨y, pl2, f⟩ := q
  simp only at hround hwf u1 u2
  have nq : σ.next ≤ σ2.next := by omega
  have n1 : ((9 : Int) == 9) = true := rfl
  have n2 : ((8 : Int) == 9) = false := rfl
  have n3 : ((8 : Int) == 8) = true := rfl
  have n4 : ((0 : Int) == 9) = false := rfl
  have n5 : ((0 : Int) == 8) = false := rfl
  have n6 : ((0 : Int) == 0) = true := rfl
  by_cases he : e = 0
  · have d1 : (e != 0) = false := by simp [he]
    rcases hround he with rfl | rfl | hq
    · repeat (first | refine W_seqR ?_ | refine Ops_nil ?_ | refine O_op rfl (by simp (disch := first | decide | omega | (simp only [put_size, hz, nx_push, nx_set]; first | done | omega)) only [go_sem, hz, a0, hl2, ho2, d1, n1]; first | done | rfl) ?_ | (refine O_gX rfl rfl (by simp (disch := first | decide | omega | (simp only [put_size, hz, nx_push, nx_set]; first | done | omega)) only [go_sem, hz, a0, hl2, ho2, d1, n1]; first | done | rfl) ?_; with_reducible first | refine gX_tt ?_ | refine gX_ff ?_ | refine gX_tf ?_ | refine gX_ft ?_ | refine gX_u ?_) | refine W_regE ?_ | refine W_block ?_ | (refine W_cX (by simp (disch := first | decide | omega | (simp only [put_size, hz, nx_push, nx_set]; first | done | omega)) only [go_sem, hz, a0, hl2, ho2, d1, n1]; first | done | rfl) ?_; with_reducible first | refine cX_t ?_ | refine cX_f ?_) | refine W_skip ?_ | refine W_seq ?_)
      refine O_call (by simp (disch := first | decide | omega | (simp only [put_size, hz, nx_push, nx_set]; first | done | omega)) only [go_sem, hz]; first | done | rfl) ?_
      refine C.mono (syr_c _) ?_
      rintro _ _ ⟨rfl, rfl⟩
      repeat (first | refine W_seqR ?_ | refine Ops_nil ?_ | refine O_op rfl (by simp (disch := first | decide | omega | (simp only [put_size, hz, nx_push, nx_set]; first | done | omega)) only [go_sem, hz]; first | done | rfl) ?_ | (refine O_gX rfl rfl (by simp (disch := first | decide | omega | (simp only [put_size, hz, nx_push, nx_set]; first | done | omega)) only [go_sem, hz]; first | done | rfl) ?_; with_reducible first | refine gX_tt ?_ | refine gX_ff ?_ | refine gX_tf ?_ | refine gX_ft ?_ | refine gX_u ?_) | refine W_regE ?_ | refine W_block ?_ | (refine W_cX (by simp (disch := first | decide | omega | (simp only [put_size, hz, nx_push, nx_set]; first | done | omega)) only [go_sem, hz]; first | done | rfl) ?_; with_reducible first | refine cX_t ?_ | refine cX_f ?_) | refine W_skip ?_ | refine W_seq ?_)
      refine W_ret ?_; (try simp only [Then, Out, Jump, JumpL]); refine ret_mk (by simp (disch := first | decide | omega | (simp only [put_size, hz, nx_push, nx_set]; first | done | omega)) only [go_sem, hz]; first | done | rfl) ?_; (try simp only [resultA])
      exact ⟨by first | rfl | trivial, (kq2.push _).set (by omega) _⟩
    · repeat (first | refine W_seqR ?_ | refine Ops_nil ?_ | refine O_op rfl (by simp (disch := first | decide | omega | (simp only [put_size, hz, nx_push, nx_set]; first | done | omega)) only [go_sem, hz, a0, hl2, ho2, d1, n2, n3]; first | done | rfl) ?_ | (refine O_gX rfl rfl (by simp (disch := first | decide | omega | (simp only [put_size, hz, nx_push, nx_set]; first | done | omega)) only [go_sem, hz, a0, hl2, ho2, d1, n2, n3]; first | done | rfl) ?_; with_reducible first | refine gX_tt ?_ | refine gX_ff ?_ | refine gX_tf ?_ | refine gX_ft ?_ | refine gX_u ?_) | refine W_regE ?_ | refine W_block ?_ | (refine W_cX (by simp (disch := first | decide | omega | (simp only [put_size, hz, nx_push, nx_set]; first | done | omega)) only [go_sem, hz, a0, hl2, ho2, d1, n2, n3]; first | done | rfl) ?_; with_reducible first | refine cX_t ?_ | refine cX_f ?_) | refine W_skip ?_ | refine W_seq ?_)
      refine O_call (by simp (disch := first | decide | omega | (simp only [put_size, hz, nx_push, nx_set]; first | done | omega)) only [go_sem, hz]; first | done | rfl) ?_
      refine C.mono (syr_c _) ?_
      rintro _ _ ⟨rfl, rfl⟩
      repeat (first | refine W_seqR ?_ | refine Ops_nil ?_ | refine O_op rfl (by simp (disch := first | decide | omega | (simp only [put_size, hz, nx_push, nx_set]; first | done | omega)) only [go_sem, hz]; first | done | rfl) ?_ | (refine O_gX rfl rfl (by simp (disch := first | decide | omega | (simp only [put_size, hz, nx_push, nx_set]; first | done | omega)) only [go_sem, hz]; first | done | rfl) ?_; with_reducible first | refine gX_tt ?_ | refine gX_ff ?_ | refine gX_tf ?_ | refine gX_ft ?_ | refine gX_u ?_) | refine W_regE ?_ | refine W_block ?_ | (refine W_cX (by simp (disch := first | decide | omega | (simp only [put_size, hz, nx_push, nx_set]; first | done | omega)) only [go_sem, hz]; first | done | rfl) ?_; with_reducible first | refine cX_t ?_ | refine cX_f ?_) | refine W_skip ?_ | refine W_seq ?_)
      refine W_ret ?_; (try simp only [Then, Out, Jump, JumpL]); refine ret_mk (by simp (disch := first | decide | omega | (simp only [put_size, hz, nx_push, nx_set]; first | done | omega)) only [go_sem, hz]; first | done | rfl) ?_; (try simp only [resultA])
      exact ⟨by first | rfl | trivial, (kq2.push _).set (by omega) _⟩
    · simp only [Prod.mk.injEq] at hq
      obtain ⟨rfl, rfl, rfl⟩ := hq
      repeat (first | refine W_seqR ?_ | refine Ops_nil ?_ | refine O_op rfl (by simp (disch := first | decide | omega | (simp only [put_size, hz, nx_push, nx_set]; first | done | omega)) only [go_sem, hz, a0, hl2, ho2, d1, n4, n5, n6, gA, hl1]; first | done | rfl) ?_ | (refine O_gX rfl rfl (by simp (disch := first | decide | omega | (simp only [put_size, hz, nx_push, nx_set]; first | done | omega)) only [go_sem, hz, a0, hl2, ho2, d1, n4, n5, n6, gA, hl1]; first | done | rfl) ?_; with_reducible first | refine gX_tt ?_ | refine gX_ff ?_ | refine gX_tf ?_ | refine gX_ft ?_ | refine gX_u ?_) | refine W_regE ?_ | refine W_block ?_ | (refine W_cX (by simp (disch := first | decide | omega | (simp only [put_size, hz, nx_push, nx_set]; first | done | omega)) only [go_sem, hz, a0, hl2, ho2, d1, n4, n5, n6, gA, hl1]; first | done | rfl) ?_; with_reducible first | refine cX_t ?_ | refine cX_f ?_) | refine W_skip ?_ | refine W_seq ?_)
      refine O_call (by simp (disch := first | decide | omega | (simp only [put_size, hz, nx_push, nx_set]; first | done | omega)) only [go_sem, hz]; first | done | rfl) ?_
      obtain ⟨n, hn⟩ := hwf
      have k3 : ∀ B1 B2 : Blk, Kp σ2 ((σ2.push B1).set σ2.next B2) := fun _ _ => ((Kp.refl σ2).push _).set (Nat.le_refl _) _
      refine C.mono ((same_all n).1 _ hn _ _ _ (u1.kp (k3 _ _)) (u2.kp (k3 _ _))) ?_
      rintro _ σ3 ⟨rfl, k4⟩
      have k5 := (kq2.trans (k3 _ _)).trans k4
      repeat (first | refine W_seqR ?_ | refine Ops_nil ?_ | refine O_op rfl (by simp (disch := first | decide | omega | (simp only [put_size, hz, nx_push, nx_set]; first | done | omega)) only [go_sem, hz]; first | done | rfl) ?_ | (refine O_gX rfl rfl (by simp (disch := first | decide | omega | (simp only [put_size, hz, nx_push, nx_set]; first | done | omega)) only [go_sem, hz]; first | done | rfl) ?_; with_reducible first | refine gX_tt ?_ | refine gX_ff ?_ | refine gX_tf ?_ | refine gX_ft ?_ | refine gX_u ?_) | refine W_regE ?_ | refine W_block ?_ | (refine W_cX (by simp (disch := first | decide | omega | (simp only [put_size, hz, nx_push, nx_set]; first | done | omega)) only [go_sem, hz]; first | done | rfl) ?_; with_reducible first | refine cX_t ?_ | refine cX_f ?_) | refine W_skip ?_ | refine W_seq ?_)
      refine O_call (by simp (disch := first | decide | omega | (simp only [put_size, hz, nx_push, nx_set]; first | done | omega)) only [go_sem, hz]; first | done | rfl) ?_
      refine C.mono (syr_c _) ?_
      rintro _ _ ⟨rfl, rfl⟩
      repeat (first | refine W_seqR ?_ | refine Ops_nil ?_ | refine O_op rfl (by simp (disch := first | decide | omega | (simp only [put_size, hz, nx_push, nx_set]; first | done | omega)) only [go_sem, hz]; first | done | rfl) ?_ | (refine O_gX rfl rfl (by simp (disch := first | decide | omega | (simp only [put_size, hz, nx_push, nx_set]; first | done | omega)) only [go_sem, hz]; first | done | rfl) ?_; with_reducible first | refine gX_tt ?_ | refine gX_ff ?_ | refine gX_tf ?_ | refine gX_ft ?_ | refine gX_u ?_) | refine W_regE ?_ | refine W_block ?_ | (refine W_cX (by simp (disch := first | decide | omega | (simp only [put_size, hz, nx_push, nx_set]; first | done | omega)) only [go_sem, hz]; first | done | rfl) ?_; with_reducible first | refine cX_t ?_ | refine cX_f ?_) | refine W_skip ?_ | refine W_seq ?_)
      refine W_ret ?_; (try simp only [Then, Out, Jump, JumpL]); refine ret_mk (by simp (disch := first | decide | omega | (simp only [put_size, hz, nx_push, nx_set]; first | done | omega)) only [go_sem, hz]; first | done | rfl) ?_; (try simp only [resultA])
      exact ⟨by first | rfl | trivial, k5⟩
  · have d1 : (e != 0) = true := by simp [he]
    repeat (first | refine W_seqR ?_ | refine Ops_nil ?_ | refine O_op rfl (by simp (disch := first | decide | omega | (simp only [put_size, hz, nx_push, nx_set]; first | done | omega)) only [go_sem, hz, a0, hl2, ho2, d1]; first | done | rfl) ?_ | (refine O_gX rfl rfl (by simp (disch := first | decide | omega | (simp only [put_size, hz, nx_push, nx_set]; first | done | omega)) only [go_sem, hz, a0, hl2, ho2, d1]; first | done | rfl) ?_; with_reducible first | refine gX_tt ?_ | refine gX_ff ?_ | refine gX_tf ?_ | refine gX_ft ?_ | refine gX_u ?_) | refine W_regE ?_ | refine W_block ?_ | (refine W_cX (by simp (disch := first | decide | omega | (simp only [put_size, hz, nx_push, nx_set]; first | done | omega)) only [go_sem, hz, a0, hl2, ho2, d1]; first | done | rfl) ?_; with_reducible first | refine cX_t ?_ | refine cX_f ?_) | refine W_skip ?_ | refine W_seq ?_)
    refine O_call (by simp (disch := first | decide | omega | (simp only [put_size, hz, nx_push, nx_set]; first | done | omega)) only [go_sem, hz]; first | done | rfl) ?_
    refine C.mono (syr_c _) ?_
    rintro _ _ ⟨rfl, rfl⟩
    repeat (first | refine W_seqR ?_ | refine Ops_nil ?_ | refine O_op rfl (by simp (disch := first | decide | omega | (simp only [put_size, hz, nx_push, nx_set]; first | done | omega)) only [go_sem, hz]; first | done | rfl) ?_ | (refine O_gX rfl rfl (by simp (disch := first | decide | omega | (simp only [put_size, hz, nx_push, nx_set]; first | done | omega)) only [go_sem, hz]; first | done | rfl) ?_; with_reducible first | refine gX_tt ?_ | refine gX_ff ?_ | refine gX_tf ?_ | refine gX_ft ?_ | refine gX_u ?_) | refine W_regE ?_ | refine W_block ?_ | (refine W_cX (by simp (disch := first | decide | omega | (simp only [put_size, hz, nx_push, nx_set]; first | done | omega)) only [go_sem, hz]; first | done | rfl) ?_; with_reducible first | refine cX_t ?_ | refine cX_f ?_) | refine W_skip ?_ | refine W_seq ?_)
    refine W_ret ?_; (try simp only [Then, Out, Jump, JumpL]); refine ret_mk (by simp (disch := first | decide | omega | (simp only [put_size, hz, nx_push, nx_set]; first | done | omega)) only [go_sem, hz]; first | done | rfl) ?_; (try simp only [resultA])
    exact ⟨by first | rfl | trivial, (kq2.push _).set (by omega) _⟩
/-- What a call comes to in the reckoning's empty memory, it comes to in whatever memory. -/
theorem calls_of_c {P : Program} {g : Nat} {xs : List Value} {v : Value} (hx : xs.all flatB = true) (hv : flatB v = true) (h : C P g xs AW0 fun u σ' => u = v ∧ Kp AW0 σ') (w : World) (hw : GlobW w) : Calls P g xs.toArray w fun e w' => e = .returned v ∧ Below w.heap.size w w' := by
  obtain ⟨u, σ', ⟨_, hc⟩, rfl, _⟩ := h
  have hfl : ∀ x ∈ xs, Fl x := fun x hx' => flatB_fl (List.all_eq_true.1 hx x hx')
  have := hc (fun k => (k, 0)) w (rel_none _ w hw) (fun x hx' => (hfl x hx').sc _)
  rw [fl_map hfl] at this
  refine Calls.mono this ?_
  rintro e w' ⟨ρ', rfl, hst, _⟩
  exact ⟨by rw [flatB_fl hv ρ'], hst.os, hst.tape, hst.output, hst.size, fun b hb => hst.same b hb (fun k hk => by
    have e : ∀ {α : Type} (d : α) (k : Nat), getN d [] k = d := fun d k => by cases k <;> rfl
    have : (AW0.get k).kind = 0 := by simp [AW.get, AW0, e, noBlk]
    exact absurd this hk.1)⟩
theorem syntaxRound_walk (s : ByteArray) (hs : s.size ≤ maxLen) (w : World) (hw : HasMax w) : Calls Tryz.prog 3 #[.string s] w fun e w' => e = .returned (.bool true) ∧ Below w.heap.size w w' :=
  calls_of_c (xs := [.string s]) rfl rfl (round_c s (Nat.le_trans hs (by decide)) AW0) w (fun _ => ⟨by
    obtain ⟨m, hm⟩ := hw
    apply Classical.byContradiction
    intro hn
    have : w.heap[0]? = none := Array.getElem?_eq_none (by omega)
    simp [World.cell?, this] at hm, hw⟩)
end Go.Proofs.YtailfiofcicloaaGreatDoor

namespace Go.Proofs.YtailfiofcicloaaGreatDoor
open Go

set_option maxRecDepth 100000 in
theorem handed_shaped {H : Type} {enc : TypeId × Value → H} {os : Os} {f : FuncId} {fn : Func} {s : ChangeSpec} {apart fresh handsOn again : Bool} {X : World → Prop}
    (own : ownKnob Tryz.prog.godebug = none) (started : os.Started) (noInit : Tryz.prog.inits.idxOf? f = none) (hfn : Tryz.prog.funcs[f]? = some fn)
    (witness : ∃ (w : World) (tape : Tape) (i : Input), w.os = os ∧ (w.forCall tape i).Shaped Tryz.prog ∧ i.vars = [] ∧ Input.okWide Tryz.prog (w.forCall tape i) .any w.heap.size f i ∧
      ((s.pre enc Tryz.prog fn [] apart (w.forCall tape i).memory i.args ∧ X (w.forCall tape i).memory) ∧ sizedMet enc Tryz.prog fn (OpenSpec.ofChange s) apart (w.forCall tape i).memory i.args) ∧ ({} : Assume).holds Tryz.prog (lone (Frame.enter Tryz.prog f i.args .normal) [] (w.forCall tape i)))
    (contract : ∀ (W : World) (base : Nat) (args : Array Value) (ds gs : List (DataW H)) (before : List MemPlace),
      (∀ (j : Nat) t v, fn.params[j]? = some t → args[j]? = some v → Value.okWide Tryz.prog W .any base t v) → DataW.Whole enc Tryz.prog fn.params.toList s.vars apart W args.toList ds gs before → W.ShapedOpen Tryz.prog →
      Calls Tryz.prog f args W fun e W' => ∃ v, e = .returned v ∧ s.post enc Tryz.prog fn apart fresh handsOn again W args v W') :
    ReturnsInHanded {} Tryz.checked os f .any (fun w args => (s.pre enc Tryz.prog fn [] apart w args ∧ X w) ∧ sizedMet enc Tryz.prog fn (OpenSpec.ofChange s) apart w args) (s.post enc Tryz.prog fn apart fresh handsOn again) := by
  refine returnsInHanded_of_calls (C := Tryz.checked) own started noInit witness ?_
  intro w tape i _ hsh _ hok hpre _
  obtain ⟨_, _, _, fn', hfn', _, _, _, _, hval⟩ := hok
  obtain rfl : fn' = fn := Option.some.inj (hfn'.symm.trans hfn)
  obtain ⟨⟨⟨ds, gs, before, hw, _⟩, _⟩, _⟩ := hpre
  refine (contract (w.forCall tape i) w.heap.size i.args ds gs before hval (DataW.Whole.of_heap (w' := w.forCall tape i) (by rfl) hw) hsh).mono fun e W' ⟨v, he, hp⟩ => ?_
  subst he
  exact ChangeSpec.post_blind hp

end Go.Proofs.YtailfiofcicloaaGreatDoor
