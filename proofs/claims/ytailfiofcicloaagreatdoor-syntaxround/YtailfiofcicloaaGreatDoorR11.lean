/- The program's reader: a part of a query. The program's reader: all levels. Tools of all layers: how contracts are joined, slices of texts, of pairs of texts and of numbers in memory, and slices of the calls' own whose elements are one cell each. Contracts of the document's letter, digit, blank, Marks, Words and Word. -/
import Derived.Test.YtailfiofcicloaaGreatDoorR10
import Derived.Test.YtailfiofcicloaaGreatDoorChecked
import Derived.WalkKit
import Derived.WalkLawsBesides
import Derived.Outline
import Derived.Lib.QuietBelow
import Derived.BigQuiet
import Derived.OwnWalk
import Derived.Laws.AppendOwnNone
import Derived.Laws.OwnMore
import Derived.Laws.CopyOwn
import Derived.Deep.RegionLaw
import Derived.Test.YtailfiofcicloaaGreatDoorR07

namespace Go.Proofs.YtailfiofcicloaaGreatDoor
open Go.RowKit
set_option maxRecDepth 10000
set_option linter.unusedSimpArgs false
set_option linter.unusedVariables false

section
variable {r b : Nat} {T : List Tk}
theorem part_t (K : Knot) (s : Sy) (c : seesB m_lp s = true) : partS K s = inBracketsS K.parts s := by
  unfold partS
  rw [sees_eq, if_pos c]
/-- What a part of a query comes to that begins with no bracket. -/
def prtSel (K : Knot) : SM Tr := do
    wantS w_select
    let d ← takeS w_distinct
    let items ← listS m_comma (itemS K)
    let froms ← behindS w_from (sourceS K)
    let wh ← behindS w_where K.or
    let gh ← groupS K
    let or ← orderS K
    let n ← limitS
    pure (mkQ 1 d n items froms wh gh.1 gh.2 or [])
theorem part_f (K : Knot) (s : Sy) (c : seesB m_lp s = false) : partS K s = prtSel K s := by
  unfold partS
  rw [sees_eq, if_neg (by simp [c])]
  rfl
theorem bnd {α β : Type} {m : SM α} {k : α → SM β} {s s' : Sy} {a : α} (h : m s = (a, s')) : (m >>= k) s = k a s' := by
  rw [SM.bind_run, h]
theorem prt_by {K : Knot} {s s1 s2 s3 s4 s5 s6 s7 s8 : Sy} {u d items froms wh gh or n} (h1 : wantS w_select s = (u, s1)) (h2 : takeS w_distinct s1 = (d, s2)) (h3 : listS m_comma (itemS K) s2 = (items, s3)) (h4 : behindS w_from (sourceS K) s3 = (froms, s4)) (h5 : behindS w_where K.or s4 = (wh, s5)) (h6 : groupS K s5 = (gh, s6)) (h7 : orderS K s6 = (or, s7)) (h8 : limitS s7 = (n, s8)) : prtSel K s = (mkQ 1 d n items froms wh gh.1 gh.2 or [], s8) := by
  unfold prtSel
  rw [bnd h1, bnd h2, bnd h3, bnd h4, bnd h5, bnd h6, bnd h7, bnd h8]
  rfl
theorem group_eq (K : Knot) (s : Sy) : groupS K s = if (takeS w_group s).1 = true then (((listS m_comma K.or (wantS w_by (takeS w_group s).2).2).1, (behindS w_having K.or (listS m_comma K.or (wantS w_by (takeS w_group s).2).2).2).1), (behindS w_having K.or (listS m_comma K.or (wantS w_by (takeS w_group s).2).2).2).2) else (([], []), (takeS w_group s).2) := by
  unfold groupS
  rw [take_eq]
  split
  · rw [SM.bind_run, SM.bind_run, SM.bind_run]
    rfl
  · rfl
theorem order_eq (K : Knot) (s : Sy) : orderS K s = if (takeS w_order s).1 = true then listS m_comma (keyS K) (wantS w_by (takeS w_order s).2).2 else ([], (takeS w_order s).2) := by
  unfold orderS
  rw [take_eq]
  split
  · rw [SM.bind_run]
  · rfl
theorem limit_eq (s : Sy) : limitS s = if (takeS w_limit s).1 = true then numberS (takeS w_limit s).2 else (-1, (takeS w_limit s).2) := by
  unfold limitS
  rw [take_eq]
  split
  · rfl
  · rfl
/-- How far a part of a query was read: its struct in block M. -/
structure PSt (r b : Nat) (T : List Tk) (d : Int) (σ : AW) (M : Nat) (A : Fr) (σ' : AW) (s' : Sy) (di : Bool) (n : Int) (p2 p3 p4 p5 p6 p7 : List Tr) : Prop where
  hz : A.size = 59
  a0 : A.get 0 = some (.pointer (some ⟨r, 0, none⟩))
  a2 : A.get 2 = some (.pointer (some ⟨σ.next, 0, none⟩))
  a3 : A.get 3 = some (.pointer (some ⟨M, 0, none⟩))
  hs : RdS σ' r b T d s'
  g : Gr r σ σ'
  lM : σ.next < M
  nx : M < σ'.next
  z : σ'.get σ.next = ⟨1, 36, 0, [.int .i64 0, .bool false, .slice none 0 0, .slice none 0 0, .slice none 0 0, .slice none 0 0, .slice none 0 0, .slice none 0 0, .int .i64 0, .slice none 0 0]⟩
  q : ∃ v2 v3 v4 v5 v6 v7, σ'.get M = ⟨1, 36, 0, [.int .i64 1, .bool di, v2, v3, v4, v5, v6, v7, .int .i64 n, .slice none 0 0]⟩ ∧ Rd σ' (fun k => σ.next ≤ k) (sl 7 p2) v2 ∧ Rd σ' (fun k => σ.next ≤ k) (sl 7 p3) v3 ∧ Rd σ' (fun k => σ.next ≤ k) (sl 6 p4) v4 ∧ Rd σ' (fun k => σ.next ≤ k) (sl 6 p5) v5 ∧ Rd σ' (fun k => σ.next ≤ k) (sl 6 p6) v6 ∧ Rd σ' (fun k => σ.next ≤ k) (sl 7 p7) v7
theorem Rd.lo {σ : AW} {D D' : Nat → Prop} {v p : Value} (h : Rd σ D p v) (hD : ∀ k, D k → D' k) : Rd σ D' p v := h.keep (fun _ _ _ _ => rfl) (Nat.le_refl _) (fun k h _ => hD k h)
theorem rd_shape {σ : AW} {D : Nat → Prop} {n : Nat} {l : List Value} {v : Value} (h : Rd σ D (sl n l) v) : ∃ a k c, v = .slice a k c := by
  obtain ⟨m, _, hs⟩ := rd_sl.1 h
  rcases hs with ⟨_, a, c, rfl⟩ | ⟨b, o, c, k, e, z, cs, rfl, _⟩
  · exact ⟨_, _, _, rfl⟩
  · exact ⟨_, _, _, rfl⟩
set_option maxHeartbeats 1600000 in
theorem part_c (hW : WordOK) {K : Knot} {d : Int} (hK : KOK K r b T d) : Reads (fun _ => True) 10 r b T d 30 [.pointer (some ⟨r, 0, none⟩)] (partS K) := by
  intro σ s he h
  have hlr := h.lr
  have hlb := h.lb
  refine C_enter rfl Tryz.func30 rfl Tryz.ntmps30 Tryz.results30 (Nat.le_of_ble_eq_true rfl) ?_; intro A hz hA; have a0 := hA 0 _ rfl; clear hA
  repeat (first | refine W_seqR ?_ | refine Ops_nil ?_ | refine O_op rfl (by simp (disch := first | decide | omega | (simp only [put_size, hz, nx_push, nx_set]; first | done | omega)) only [go_sem, hz, a0]; first | done | rfl) ?_ | (refine O_gX rfl rfl (by simp (disch := first | decide | omega | (simp only [put_size, hz, nx_push, nx_set]; first | done | omega)) only [go_sem, hz, a0]; first | done | rfl) ?_; with_reducible first | refine gX_tt ?_ | refine gX_ff ?_ | refine gX_tf ?_ | refine gX_ft ?_ | refine gX_u ?_) | refine W_regE ?_ | refine W_block ?_ | (refine W_cX (by simp (disch := first | decide | omega | (simp only [put_size, hz, nx_push, nx_set]; first | done | omega)) only [go_sem, hz, a0]; first | done | rfl) ?_; with_reducible first | refine cX_t ?_ | refine cX_f ?_) | refine W_skip ?_ | refine W_seq ?_)
  refine O_call (by simp (disch := first | decide | omega | (simp only [put_size, hz, nx_push, nx_set]; first | done | omega)) only [go_sem, hz, a0]; first | done | rfl) ?_
  refine C.mono (sees_s (h.kp ((Kp.refl σ).push _)) m_lp) ?_
  rintro _ σ1 ⟨rfl, k1⟩
  have nx1 := k1.next
  simp only [push_next] at nx1
  have gN1 := (k1.get σ.next (by first | omega | (simp only [push_next, set_next]; first | done | omega))).trans push_eq
  have h1 := (h.kp ((Kp.refl σ).push _)).kp k1
  replace k1 := (((Kp.refl σ).push _).trans k1).gr r
  cases c : seesB m_lp s with
  | true =>
    rw [part_t K s c]
    repeat (first | refine W_seqR ?_ | refine Ops_nil ?_ | refine O_op rfl (by simp (disch := first | decide | omega | (simp only [put_size, hz, nx_push, nx_set]; first | done | omega)) only [go_sem, hz, a0]; first | done | rfl) ?_ | (refine O_gX rfl rfl (by simp (disch := first | decide | omega | (simp only [put_size, hz, nx_push, nx_set]; first | done | omega)) only [go_sem, hz, a0]; first | done | rfl) ?_; with_reducible first | refine gX_tt ?_ | refine gX_ff ?_ | refine gX_tf ?_ | refine gX_ft ?_ | refine gX_u ?_) | refine W_regE ?_ | refine W_block ?_ | (refine W_cX (by simp (disch := first | decide | omega | (simp only [put_size, hz, nx_push, nx_set]; first | done | omega)) only [go_sem, hz, a0]; first | done | rfl) ?_; with_reducible first | refine cX_t ?_ | refine cX_f ?_) | refine W_skip ?_ | refine W_seq ?_)
    refine O_call (by simp (disch := first | decide | omega | (simp only [put_size, hz, nx_push, nx_set]; first | done | omega)) only [go_sem, hz, a0]; first | done | rfl) ?_
    refine C.mono (inbQ_c (fs := [.pointer (some ⟨r, 0, none⟩)]) (cs := []) stable_true hK.parts _ _ trivial h1) ?_
    rintro _ σ2 ⟨⟨t2, l2, rfl, hl2, ho2⟩, h2, g2⟩
    have nx2 := g2.next
    have gN2 := (g2.get σ.next (by omega) (by omega)).trans gN1
    replace g2 := k1.trans g2
    have t2 : TE 10 σ2 (fun k => σ1.next ≤ k) (.agg ⟨l2⟩) (inBracketsS K.parts s).1 := ⟨t2, l2, rfl, hl2, ho2⟩
    repeat (first | refine W_seqR ?_ | refine Ops_nil ?_ | refine O_op rfl (by simp (disch := first | decide | omega | (simp only [put_size, hz, nx_push, nx_set]; first | done | omega)) only [go_sem, hz, a0, hl2, ho2, gN2]; first | done | rfl) ?_ | (refine O_gX rfl rfl (by simp (disch := first | decide | omega | (simp only [put_size, hz, nx_push, nx_set]; first | done | omega)) only [go_sem, hz, a0, hl2, ho2, gN2]; first | done | rfl) ?_; with_reducible first | refine gX_tt ?_ | refine gX_ff ?_ | refine gX_tf ?_ | refine gX_ft ?_ | refine gX_u ?_) | refine W_regE ?_ | refine W_block ?_ | (refine W_cX (by simp (disch := first | decide | omega | (simp only [put_size, hz, nx_push, nx_set]; first | done | omega)) only [go_sem, hz, a0, hl2, ho2, gN2]; first | done | rfl) ?_; with_reducible first | refine cX_t ?_ | refine cX_f ?_) | refine W_skip ?_ | refine W_seq ?_)
    refine W_ret ?_; (try simp only [Then, Out, Jump, JumpL]); refine ret_mk (by simp (disch := first | decide | omega | (simp only [put_size, hz, nx_push, nx_set]; first | done | omega)) only [go_sem, hz, gN2, hl2]; first | done | rfl) ?_; (try simp only [resultA])
    exact post_fin ((Ow.refl _ _).set (Nat.le_refl _) _) g2 h2 hlr hlb ((t2.ks ((Ks.refl σ2).set (.inr (by rw [gN2])) _)).lo (fun k hk => by have := hk; omega))
  | false =>
    rw [part_f K s c]
    repeat (first | refine W_seqR ?_ | refine Ops_nil ?_ | refine O_op rfl (by simp (disch := first | decide | omega | (simp only [put_size, hz, nx_push, nx_set]; first | done | omega)) only [go_sem, hz, a0]; first | done | rfl) ?_ | (refine O_gX rfl rfl (by simp (disch := first | decide | omega | (simp only [put_size, hz, nx_push, nx_set]; first | done | omega)) only [go_sem, hz, a0]; first | done | rfl) ?_; with_reducible first | refine gX_tt ?_ | refine gX_ff ?_ | refine gX_tf ?_ | refine gX_ft ?_ | refine gX_u ?_) | refine W_regE ?_ | refine W_block ?_ | (refine W_cX (by simp (disch := first | decide | omega | (simp only [put_size, hz, nx_push, nx_set]; first | done | omega)) only [go_sem, hz, a0]; first | done | rfl) ?_; with_reducible first | refine cX_t ?_ | refine cX_f ?_) | refine W_skip ?_ | refine W_seq ?_)
    refine O_call (by simp (disch := first | decide | omega | (simp only [put_size, hz, nx_push, nx_set]; first | done | omega)) only [go_sem, hz, a0]; first | done | rfl) ?_
    refine C.mono (want_c h1 w_select) ?_
    rintro _ σ2 ⟨h2, g2⟩
    have nx2 := g2.next
    have gN2 := (g2.get σ.next (by omega) (by omega)).trans gN1
    replace g2 := k1.trans g2
    repeat (first | refine W_seqR ?_ | refine Ops_nil ?_ | refine O_op rfl (by simp (disch := first | decide | omega | (simp only [put_size, hz, nx_push, nx_set]; first | done | omega)) only [go_sem, hz, a0]; first | done | rfl) ?_ | (refine O_gX rfl rfl (by simp (disch := first | decide | omega | (simp only [put_size, hz, nx_push, nx_set]; first | done | omega)) only [go_sem, hz, a0]; first | done | rfl) ?_; with_reducible first | refine gX_tt ?_ | refine gX_ff ?_ | refine gX_tf ?_ | refine gX_ft ?_ | refine gX_u ?_) | refine W_regE ?_ | refine W_block ?_ | (refine W_cX (by simp (disch := first | decide | omega | (simp only [put_size, hz, nx_push, nx_set]; first | done | omega)) only [go_sem, hz, a0]; first | done | rfl) ?_; with_reducible first | refine cX_t ?_ | refine cX_f ?_) | refine W_skip ?_ | refine W_seq ?_)
    refine O_call (by simp (disch := first | decide | omega | (simp only [put_size, hz, nx_push, nx_set]; first | done | omega)) only [go_sem, hz, a0]; first | done | rfl) ?_
    refine C.mono (take_c h2 w_distinct) ?_
    rintro _ σ3 ⟨rfl, h3, g3⟩
    have nx3 := g3.next
    have gN3 := (g3.get σ.next (by omega) (by omega)).trans gN2
    replace g3 := g2.trans g3
    (repeat (first | refine O_op rfl (by simp (disch := first | decide | omega | (simp only [put_size, hz, nx_push, nx_set]; first | done | omega)) only [go_sem, hz, a0]; first | done | rfl) ?_ | (refine O_gX rfl rfl (by simp (disch := first | decide | omega | (simp only [put_size, hz, nx_push, nx_set]; first | done | omega)) only [go_sem, hz, a0]; first | done | rfl) ?_; with_reducible first | refine gX_tt ?_ | refine gX_ff ?_ | refine gX_tf ?_ | refine gX_ft ?_ | refine gX_u ?_))); refine Ops_nil ?_
    obtain ⟨M, hM⟩ : ∃ M, M = σ3.next := ⟨_, rfl⟩
    rw [← hM]
    have w3 : ∀ B1 B2 : Blk, Ow σ.next σ3 ((σ3.push B1).set M B2) := fun _ _ => (((Ow.refl σ.next σ3).push _).set (by omega) _)
    obtain ⟨s4, items, e4⟩ : ∃ s4 items, listS m_comma (itemS K) (takeS w_distinct (wantS w_select s).2).2 = (items, s4) := ⟨_, _, rfl⟩
    obtain ⟨s5, froms, e5⟩ : ∃ s5 froms, behindS w_from (sourceS K) s4 = (froms, s5) := ⟨_, _, rfl⟩
    obtain ⟨s6, wh, e6⟩ : ∃ s6 wh, behindS w_where K.or s5 = (wh, s6) := ⟨_, _, rfl⟩
    obtain ⟨s7, gr, ha, e7⟩ : ∃ s7 gr ha, groupS K s6 = ((gr, ha), s7) := ⟨_, _, _, rfl⟩
    obtain ⟨s8, or, e8⟩ : ∃ s8 or, orderS K s7 = (or, s8) := ⟨_, _, rfl⟩
    obtain ⟨s9, n, e9⟩ : ∃ s9 n, limitS s8 = (n, s9) := ⟨_, _, rfl⟩
    rw [prt_by (u := ()) (s1 := (wantS w_select s).2) (d := (takeS w_distinct (wantS w_select s).2).1) (s2 := (takeS w_distinct (wantS w_select s).2).2) rfl rfl e4 e5 e6 e7 e8 e9]
    generalize (takeS w_distinct (wantS w_select s).2).1 = di
    refine W_seq (W.mono (Q := fun e A' σ' => e = .normal ∧ PSt r b T d σ M A' σ' s4 di (-1) items [] [] [] [] []) ?_ ?_)
    · repeat (first | refine W_seqR ?_ | refine Ops_nil ?_ | refine O_op rfl (by simp (disch := first | decide | omega | (simp only [put_size, hz, nx_push, nx_set]; first | done | omega)) only [go_sem, hz, a0]; first | done | rfl) ?_ | (refine O_gX rfl rfl (by simp (disch := first | decide | omega | (simp only [put_size, hz, nx_push, nx_set]; first | done | omega)) only [go_sem, hz, a0]; first | done | rfl) ?_; with_reducible first | refine gX_tt ?_ | refine gX_ff ?_ | refine gX_tf ?_ | refine gX_ft ?_ | refine gX_u ?_) | refine W_regE ?_ | refine W_block ?_ | (refine W_cX (by simp (disch := first | decide | omega | (simp only [put_size, hz, nx_push, nx_set]; first | done | omega)) only [go_sem, hz, a0]; first | done | rfl) ?_; with_reducible first | refine cX_t ?_ | refine cX_f ?_) | refine W_skip ?_ | refine W_seq ?_)
      refine O_call (by simp (disch := first | decide | omega | (simp only [put_size, hz, nx_push, nx_set]; first | done | omega)) only [go_sem, hz, a0]; first | done | rfl) ?_
      refine C.mono (listI_c (fs := [.pointer (some ⟨r, 0, none⟩)]) (cs := []) stable_true (shr_item hK.sh) (item_c hW hK) m_comma _ _ trivial (h3.ow (w3 _ _) hlr hlb)) ?_
      rw [e4]
      rintro v2 σ4 ⟨t4, h4, g4⟩
      have nx4 := g4.next
      simp only [push_next, set_next] at nx4
      have gN4 := (g4.get σ.next (by first | omega | (simp only [push_next, set_next]; first | done | omega)) (by omega)).trans ((set_ne (by omega)).trans ((push_ne (by omega)).trans gN3))
      have gM4 := (g4.get M (by first | omega | (simp only [push_next, set_next]; first | done | omega)) (by omega)).trans set_eq
      obtain ⟨x2, y2, z2, rfl⟩ := rd_shape t4
      repeat (first | refine W_seqR ?_ | refine Ops_nil ?_ | refine O_op rfl (by simp (disch := first | decide | omega | (simp only [put_size, hz, nx_push, nx_set]; first | done | omega)) only [go_sem, hz, a0, gM4]; first | done | rfl) ?_ | (refine O_gX rfl rfl (by simp (disch := first | decide | omega | (simp only [put_size, hz, nx_push, nx_set]; first | done | omega)) only [go_sem, hz, a0, gM4]; first | done | rfl) ?_; with_reducible first | refine gX_tt ?_ | refine gX_ff ?_ | refine gX_tf ?_ | refine gX_ft ?_ | refine gX_u ?_) | refine W_regE ?_ | refine W_block ?_ | (refine W_cX (by simp (disch := first | decide | omega | (simp only [put_size, hz, nx_push, nx_set]; first | done | omega)) only [go_sem, hz, a0, gM4]; first | done | rfl) ?_; with_reducible first | refine cX_t ?_ | refine cX_f ?_) | refine W_skip ?_ | refine W_seq ?_)
      refine ⟨rfl, by simp (disch := first | decide | omega | (simp only [put_size, hz, nx_push, nx_set]; first | done | omega)) only [go_sem, hz]; first | done | rfl, by simp (disch := first | decide | omega | (simp only [put_size, hz, nx_push, nx_set]; first | done | omega)) only [go_sem, hz, a0]; first | done | rfl, by simp (disch := first | decide | omega | (simp only [put_size, hz, nx_push, nx_set]; first | done | omega)) only [go_sem, hz]; first | done | rfl, by simp (disch := first | decide | omega | (simp only [put_size, hz, nx_push, nx_set]; first | done | omega)) only [go_sem, hz]; first | done | rfl, h4.ow ((Ow.refl σ.next σ4).set (by omega) _) hlr hlb, ((g3.ow (w3 _ _)).trans g4).ow ((Ow.refl σ.next σ4).set (by omega) _), by omega, by first | omega | (simp only [push_next, set_next]; first | done | omega), (set_ne (by omega)).trans gN4, ?_⟩
      have kM : ∀ B : Blk, Ks σ4 (σ4.set M B) := fun _ => (Ks.refl σ4).set (.inr (by rw [gM4])) _
      exact ⟨_, _, _, _, _, _, set_eq, (t4.ks (kM _)).lo (fun k hk => by have := hk; simp only [push_next, set_next] at this; omega), rd_nil _ _ _, rd_nil _ _ _, rd_nil _ _ _, rd_nil _ _ _, rd_nil _ _ _⟩
    rintro _ A σ4 ⟨rfl, hz, a0, a2, a3, h4, g4, lM, nx4, gN4, v2, v3, v4, v5, v6, v7, gM4, t2, t3, t4, t5, t6, t7⟩
    simp only [Then]
    obtain ⟨v2a, v2b, v2c, rfl⟩ := rd_shape t2
    obtain ⟨v3a, v3b, v3c, rfl⟩ := rd_shape t3
    obtain ⟨v4a, v4b, v4c, rfl⟩ := rd_shape t4
    obtain ⟨v5a, v5b, v5c, rfl⟩ := rd_shape t5
    obtain ⟨v6a, v6b, v6c, rfl⟩ := rd_shape t6
    obtain ⟨v7a, v7b, v7c, rfl⟩ := rd_shape t7
    refine W_seq (W.mono (Q := fun e A' σ' => e = .normal ∧ PSt r b T d σ M A' σ' s5 di (-1) items froms [] [] [] []) ?_ ?_)
    · repeat (first | refine W_seqR ?_ | refine Ops_nil ?_ | refine O_op rfl (by simp (disch := first | decide | omega | (simp only [put_size, hz, nx_push, nx_set]; first | done | omega)) only [go_sem, hz, a0, a3]; first | done | rfl) ?_ | (refine O_gX rfl rfl (by simp (disch := first | decide | omega | (simp only [put_size, hz, nx_push, nx_set]; first | done | omega)) only [go_sem, hz, a0, a3]; first | done | rfl) ?_; with_reducible first | refine gX_tt ?_ | refine gX_ff ?_ | refine gX_tf ?_ | refine gX_ft ?_ | refine gX_u ?_) | refine W_regE ?_ | refine W_block ?_ | (refine W_cX (by simp (disch := first | decide | omega | (simp only [put_size, hz, nx_push, nx_set]; first | done | omega)) only [go_sem, hz, a0, a3]; first | done | rfl) ?_; with_reducible first | refine cX_t ?_ | refine cX_f ?_) | refine W_skip ?_ | refine W_seq ?_)
      refine O_call (by simp (disch := first | decide | omega | (simp only [put_size, hz, nx_push, nx_set]; first | done | omega)) only [go_sem, hz, a0]; first | done | rfl) ?_
      refine C.mono (behF_c (fs := [.pointer (some ⟨r, 0, none⟩)]) (cs := []) stable_true (source_c hW hK) w_from _ _ trivial h4) ?_
      rw [e5]
      rintro x5 σ5 ⟨q5, h5, g5⟩
      have nx5 := g5.next
      try simp only [set_next] at nx5
      have gN5 := (g5.get σ.next (by omega) (by omega)).trans gN4
      have gM5 := (g5.get M (by omega) (by omega)).trans gM4
      have k5 := g5.ks h4.ez
      obtain ⟨y5, y6, y7, rfl⟩ := rd_shape q5
      repeat (first | refine W_seqR ?_ | refine Ops_nil ?_ | refine O_op rfl (by simp (disch := first | decide | omega | (simp only [put_size, hz, nx_push, nx_set]; first | done | omega)) only [go_sem, hz, a0, a3, gM5]; first | done | rfl) ?_ | (refine O_gX rfl rfl (by simp (disch := first | decide | omega | (simp only [put_size, hz, nx_push, nx_set]; first | done | omega)) only [go_sem, hz, a0, a3, gM5]; first | done | rfl) ?_; with_reducible first | refine gX_tt ?_ | refine gX_ff ?_ | refine gX_tf ?_ | refine gX_ft ?_ | refine gX_u ?_) | refine W_regE ?_ | refine W_block ?_ | (refine W_cX (by simp (disch := first | decide | omega | (simp only [put_size, hz, nx_push, nx_set]; first | done | omega)) only [go_sem, hz, a0, a3, gM5]; first | done | rfl) ?_; with_reducible first | refine cX_t ?_ | refine cX_f ?_) | refine W_skip ?_ | refine W_seq ?_)
      refine ⟨rfl, by simp (disch := first | decide | omega | (simp only [put_size, hz, nx_push, nx_set]; first | done | omega)) only [go_sem, hz]; first | done | rfl, by simp (disch := first | decide | omega | (simp only [put_size, hz, nx_push, nx_set]; first | done | omega)) only [go_sem, hz, a0]; first | done | rfl, by simp (disch := first | decide | omega | (simp only [put_size, hz, nx_push, nx_set]; first | done | omega)) only [go_sem, hz, a2]; first | done | rfl, by simp (disch := first | decide | omega | (simp only [put_size, hz, nx_push, nx_set]; first | done | omega)) only [go_sem, hz, a3]; first | done | rfl, h5.ow ((Ow.refl σ.next σ5).set (by omega) _) hlr hlb, (g4.trans g5).ow ((Ow.refl σ.next σ5).set (by omega) _), by omega, by first | omega | (simp only [push_next, set_next]; first | done | omega), (set_ne (by omega)).trans gN5, ?_⟩
      have kM : ∀ B : Blk, Ks σ5 (σ5.set M B) := fun _ => (Ks.refl σ5).set (.inr (by rw [gM5])) _
      exact ⟨_, _, _, _, _, _, set_eq, (t2.ks k5).ks (kM _), (q5.lo (fun k hk => by have := hk; omega)).ks (kM _), (t4.ks k5).ks (kM _), (t5.ks k5).ks (kM _), (t6.ks k5).ks (kM _), (t7.ks k5).ks (kM _)⟩
    rintro _ A σ4 ⟨rfl, hz, a0, a2, a3, h4, g4, lM, nx4, gN4, v2, v3, v4, v5, v6, v7, gM4, t2, t3, t4, t5, t6, t7⟩
    simp only [Then]
    obtain ⟨v2a, v2b, v2c, rfl⟩ := rd_shape t2
    obtain ⟨v3a, v3b, v3c, rfl⟩ := rd_shape t3
    obtain ⟨v4a, v4b, v4c, rfl⟩ := rd_shape t4
    obtain ⟨v5a, v5b, v5c, rfl⟩ := rd_shape t5
    obtain ⟨v6a, v6b, v6c, rfl⟩ := rd_shape t6
    obtain ⟨v7a, v7b, v7c, rfl⟩ := rd_shape t7
    refine W_seq (W.mono (Q := fun e A' σ' => e = .normal ∧ PSt r b T d σ M A' σ' s6 di (-1) items froms wh [] [] []) ?_ ?_)
    · repeat (first | refine W_seqR ?_ | refine Ops_nil ?_ | refine O_op rfl (by simp (disch := first | decide | omega | (simp only [put_size, hz, nx_push, nx_set]; first | done | omega)) only [go_sem, hz, a0, a3]; first | done | rfl) ?_ | (refine O_gX rfl rfl (by simp (disch := first | decide | omega | (simp only [put_size, hz, nx_push, nx_set]; first | done | omega)) only [go_sem, hz, a0, a3]; first | done | rfl) ?_; with_reducible first | refine gX_tt ?_ | refine gX_ff ?_ | refine gX_tf ?_ | refine gX_ft ?_ | refine gX_u ?_) | refine W_regE ?_ | refine W_block ?_ | (refine W_cX (by simp (disch := first | decide | omega | (simp only [put_size, hz, nx_push, nx_set]; first | done | omega)) only [go_sem, hz, a0, a3]; first | done | rfl) ?_; with_reducible first | refine cX_t ?_ | refine cX_f ?_) | refine W_skip ?_ | refine W_seq ?_)
      refine O_call (by simp (disch := first | decide | omega | (simp only [put_size, hz, nx_push, nx_set]; first | done | omega)) only [go_sem, hz, a0]; first | done | rfl) ?_
      refine C.mono (behE_c (fs := [.pointer (some ⟨r, 0, none⟩)]) (cs := []) stable_true hK.or w_where _ _ trivial h4) ?_
      rw [e6]
      rintro x5 σ5 ⟨q5, h5, g5⟩
      have nx5 := g5.next
      try simp only [set_next] at nx5
      have gN5 := (g5.get σ.next (by omega) (by omega)).trans gN4
      have gM5 := (g5.get M (by omega) (by omega)).trans gM4
      have k5 := g5.ks h4.ez
      obtain ⟨y5, y6, y7, rfl⟩ := rd_shape q5
      repeat (first | refine W_seqR ?_ | refine Ops_nil ?_ | refine O_op rfl (by simp (disch := first | decide | omega | (simp only [put_size, hz, nx_push, nx_set]; first | done | omega)) only [go_sem, hz, a0, a3, gM5]; first | done | rfl) ?_ | (refine O_gX rfl rfl (by simp (disch := first | decide | omega | (simp only [put_size, hz, nx_push, nx_set]; first | done | omega)) only [go_sem, hz, a0, a3, gM5]; first | done | rfl) ?_; with_reducible first | refine gX_tt ?_ | refine gX_ff ?_ | refine gX_tf ?_ | refine gX_ft ?_ | refine gX_u ?_) | refine W_regE ?_ | refine W_block ?_ | (refine W_cX (by simp (disch := first | decide | omega | (simp only [put_size, hz, nx_push, nx_set]; first | done | omega)) only [go_sem, hz, a0, a3, gM5]; first | done | rfl) ?_; with_reducible first | refine cX_t ?_ | refine cX_f ?_) | refine W_skip ?_ | refine W_seq ?_)
      refine ⟨rfl, by simp (disch := first | decide | omega | (simp only [put_size, hz, nx_push, nx_set]; first | done | omega)) only [go_sem, hz]; first | done | rfl, by simp (disch := first | decide | omega | (simp only [put_size, hz, nx_push, nx_set]; first | done | omega)) only [go_sem, hz, a0]; first | done | rfl, by simp (disch := first | decide | omega | (simp only [put_size, hz, nx_push, nx_set]; first | done | omega)) only [go_sem, hz, a2]; first | done | rfl, by simp (disch := first | decide | omega | (simp only [put_size, hz, nx_push, nx_set]; first | done | omega)) only [go_sem, hz, a3]; first | done | rfl, h5.ow ((Ow.refl σ.next σ5).set (by omega) _) hlr hlb, (g4.trans g5).ow ((Ow.refl σ.next σ5).set (by omega) _), by omega, by first | omega | (simp only [push_next, set_next]; first | done | omega), (set_ne (by omega)).trans gN5, ?_⟩
      have kM : ∀ B : Blk, Ks σ5 (σ5.set M B) := fun _ => (Ks.refl σ5).set (.inr (by rw [gM5])) _
      exact ⟨_, _, _, _, _, _, set_eq, (t2.ks k5).ks (kM _), (t3.ks k5).ks (kM _), (q5.lo (fun k hk => by have := hk; omega)).ks (kM _), (t5.ks k5).ks (kM _), (t6.ks k5).ks (kM _), (t7.ks k5).ks (kM _)⟩
    rintro _ A σ4 ⟨rfl, hz, a0, a2, a3, h4, g4, lM, nx4, gN4, v2, v3, v4, v5, v6, v7, gM4, t2, t3, t4, t5, t6, t7⟩
    simp only [Then]
    obtain ⟨v2a, v2b, v2c, rfl⟩ := rd_shape t2
    obtain ⟨v3a, v3b, v3c, rfl⟩ := rd_shape t3
    obtain ⟨v4a, v4b, v4c, rfl⟩ := rd_shape t4
    obtain ⟨v5a, v5b, v5c, rfl⟩ := rd_shape t5
    obtain ⟨v6a, v6b, v6c, rfl⟩ := rd_shape t6
    obtain ⟨v7a, v7b, v7c, rfl⟩ := rd_shape t7
    repeat (first | refine W_seqR ?_ | refine Ops_nil ?_ | refine O_op rfl (by simp (disch := first | decide | omega | (simp only [put_size, hz, nx_push, nx_set]; first | done | omega)) only [go_sem, hz, a0, a3]; first | done | rfl) ?_ | (refine O_gX rfl rfl (by simp (disch := first | decide | omega | (simp only [put_size, hz, nx_push, nx_set]; first | done | omega)) only [go_sem, hz, a0, a3]; first | done | rfl) ?_; with_reducible first | refine gX_tt ?_ | refine gX_ff ?_ | refine gX_tf ?_ | refine gX_ft ?_ | refine gX_u ?_) | refine W_regE ?_ | refine W_block ?_ | (refine W_cX (by simp (disch := first | decide | omega | (simp only [put_size, hz, nx_push, nx_set]; first | done | omega)) only [go_sem, hz, a0, a3]; first | done | rfl) ?_; with_reducible first | refine cX_t ?_ | refine cX_f ?_) | refine W_skip ?_ | refine W_seq ?_)
    refine O_call (by simp (disch := first | decide | omega | (simp only [put_size, hz, nx_push, nx_set]; first | done | omega)) only [go_sem, hz, a0]; first | done | rfl) ?_
    refine C.mono (take_c h4 w_group) ?_
    rintro _ σ5 ⟨rfl, h5, g5⟩
    have nx5 := g5.next
    have gN5 := (g5.get σ.next (by omega) (by omega)).trans gN4
    have gM5 := (g5.get M (by omega) (by omega)).trans gM4
    have k5 := g5.ks h4.ez
    (repeat (first | refine O_op rfl (by simp (disch := first | decide | omega | (simp only [put_size, hz, nx_push, nx_set]; first | done | omega)) only [go_sem, hz, a0, a3]; first | done | rfl) ?_ | (refine O_gX rfl rfl (by simp (disch := first | decide | omega | (simp only [put_size, hz, nx_push, nx_set]; first | done | omega)) only [go_sem, hz, a0, a3]; first | done | rfl) ?_; with_reducible first | refine gX_tt ?_ | refine gX_ff ?_ | refine gX_tf ?_ | refine gX_ft ?_ | refine gX_u ?_))); refine Ops_nil ?_
    refine W.mono (Q := fun e A' σ' => e = .normal ∧ PSt r b T d σ M A' σ' s7 di (-1) items froms wh gr ha []) ?_ ?_
    · rw [group_eq] at e7
      cases cg : (takeS w_group s6).1 with
      | true =>
        rw [if_pos cg] at e7
        cases e7
        repeat (first | refine W_seqR ?_ | refine Ops_nil ?_ | refine O_op rfl (by simp (disch := first | decide | omega | (simp only [put_size, hz, nx_push, nx_set]; first | done | omega)) only [go_sem, hz, a0, a3]; first | done | rfl) ?_ | (refine O_gX rfl rfl (by simp (disch := first | decide | omega | (simp only [put_size, hz, nx_push, nx_set]; first | done | omega)) only [go_sem, hz, a0, a3]; first | done | rfl) ?_; with_reducible first | refine gX_tt ?_ | refine gX_ff ?_ | refine gX_tf ?_ | refine gX_ft ?_ | refine gX_u ?_) | refine W_regE ?_ | refine W_block ?_ | (refine W_cX (by simp (disch := first | decide | omega | (simp only [put_size, hz, nx_push, nx_set]; first | done | omega)) only [go_sem, hz, a0, a3]; first | done | rfl) ?_; with_reducible first | refine cX_t ?_ | refine cX_f ?_) | refine W_skip ?_ | refine W_seq ?_)
        refine O_call (by simp (disch := first | decide | omega | (simp only [put_size, hz, nx_push, nx_set]; first | done | omega)) only [go_sem, hz, a0]; first | done | rfl) ?_
        refine C.mono (want_c h5 w_by) ?_
        rintro _ σ6 ⟨h6, g6⟩
        have nx6 := g6.next
        have gN6 := (g6.get σ.next (by omega) (by omega)).trans gN5
        have gM6 := (g6.get M (by omega) (by omega)).trans gM5
        have k6 := k5.trans (g6.ks h5.ez)
        repeat (first | refine W_seqR ?_ | refine Ops_nil ?_ | refine O_op rfl (by simp (disch := first | decide | omega | (simp only [put_size, hz, nx_push, nx_set]; first | done | omega)) only [go_sem, hz, a0, a3]; first | done | rfl) ?_ | (refine O_gX rfl rfl (by simp (disch := first | decide | omega | (simp only [put_size, hz, nx_push, nx_set]; first | done | omega)) only [go_sem, hz, a0, a3]; first | done | rfl) ?_; with_reducible first | refine gX_tt ?_ | refine gX_ff ?_ | refine gX_tf ?_ | refine gX_ft ?_ | refine gX_u ?_) | refine W_regE ?_ | refine W_block ?_ | (refine W_cX (by simp (disch := first | decide | omega | (simp only [put_size, hz, nx_push, nx_set]; first | done | omega)) only [go_sem, hz, a0, a3]; first | done | rfl) ?_; with_reducible first | refine cX_t ?_ | refine cX_f ?_) | refine W_skip ?_ | refine W_seq ?_)
        refine O_call (by simp (disch := first | decide | omega | (simp only [put_size, hz, nx_push, nx_set]; first | done | omega)) only [go_sem, hz, a0]; first | done | rfl) ?_
        refine C.mono (listE_c (fs := [.pointer (some ⟨r, 0, none⟩)]) (cs := []) stable_true hK.sh.or hK.or m_comma _ _ trivial h6) ?_
        rintro x7 σ7 ⟨q7, h7, g7⟩
        have nx7 := g7.next
        try simp only [set_next] at nx7
        have gN7 := (g7.get σ.next (by omega) (by omega)).trans gN6
        have gM7 := (g7.get M (by omega) (by omega)).trans gM6
        have k7 := k6.trans (g7.ks h6.ez)
        obtain ⟨y5, y6, y7, rfl⟩ := rd_shape q7
        repeat (first | refine W_seqR ?_ | refine Ops_nil ?_ | refine O_op rfl (by simp (disch := first | decide | omega | (simp only [put_size, hz, nx_push, nx_set]; first | done | omega)) only [go_sem, hz, a0, a3, gM7]; first | done | rfl) ?_ | (refine O_gX rfl rfl (by simp (disch := first | decide | omega | (simp only [put_size, hz, nx_push, nx_set]; first | done | omega)) only [go_sem, hz, a0, a3, gM7]; first | done | rfl) ?_; with_reducible first | refine gX_tt ?_ | refine gX_ff ?_ | refine gX_tf ?_ | refine gX_ft ?_ | refine gX_u ?_) | refine W_regE ?_ | refine W_block ?_ | (refine W_cX (by simp (disch := first | decide | omega | (simp only [put_size, hz, nx_push, nx_set]; first | done | omega)) only [go_sem, hz, a0, a3, gM7]; first | done | rfl) ?_; with_reducible first | refine cX_t ?_ | refine cX_f ?_) | refine W_skip ?_ | refine W_seq ?_)
        have ow7 : ∀ B : Blk, Ow σ.next σ7 (σ7.set M B) := fun _ => (Ow.refl σ.next σ7).set (by omega) _
        have kM7 : ∀ B : Blk, Ks σ7 (σ7.set M B) := fun _ => (Ks.refl σ7).set (.inr (by rw [gM7])) _
        refine O_call (by simp (disch := first | decide | omega | (simp only [put_size, hz, nx_push, nx_set]; first | done | omega)) only [go_sem, hz, a0]; first | done | rfl) ?_
        refine C.mono (behE_c (fs := [.pointer (some ⟨r, 0, none⟩)]) (cs := []) stable_true hK.or w_having _ _ trivial (h7.ow (ow7 _) hlr hlb)) ?_
        rintro x8 σ8 ⟨q8, h8, g8⟩
        have nx8 := g8.next
        try simp only [set_next] at nx8
        have gN8 := (g8.get σ.next (by first | omega | (simp only [push_next, set_next]; first | done | omega)) (by omega)).trans ((set_ne (by omega)).trans gN7)
        have gM8 := (g8.get M (by first | omega | (simp only [push_next, set_next]; first | done | omega)) (by omega)).trans set_eq
        have k8 := (kM7 _).trans (g8.ks (h7.ow (ow7 _) hlr hlb).ez)
        obtain ⟨z5, z6, z7, rfl⟩ := rd_shape q8
        repeat (first | refine W_seqR ?_ | refine Ops_nil ?_ | refine O_op rfl (by simp (disch := first | decide | omega | (simp only [put_size, hz, nx_push, nx_set]; first | done | omega)) only [go_sem, hz, a0, a3, gM8]; first | done | rfl) ?_ | (refine O_gX rfl rfl (by simp (disch := first | decide | omega | (simp only [put_size, hz, nx_push, nx_set]; first | done | omega)) only [go_sem, hz, a0, a3, gM8]; first | done | rfl) ?_; with_reducible first | refine gX_tt ?_ | refine gX_ff ?_ | refine gX_tf ?_ | refine gX_ft ?_ | refine gX_u ?_) | refine W_regE ?_ | refine W_block ?_ | (refine W_cX (by simp (disch := first | decide | omega | (simp only [put_size, hz, nx_push, nx_set]; first | done | omega)) only [go_sem, hz, a0, a3, gM8]; first | done | rfl) ?_; with_reducible first | refine cX_t ?_ | refine cX_f ?_) | refine W_skip ?_ | refine W_seq ?_)
        refine ⟨rfl, by simp (disch := first | decide | omega | (simp only [put_size, hz, nx_push, nx_set]; first | done | omega)) only [go_sem, hz]; first | done | rfl, by simp (disch := first | decide | omega | (simp only [put_size, hz, nx_push, nx_set]; first | done | omega)) only [go_sem, hz, a0]; first | done | rfl, by simp (disch := first | decide | omega | (simp only [put_size, hz, nx_push, nx_set]; first | done | omega)) only [go_sem, hz, a2]; first | done | rfl, by simp (disch := first | decide | omega | (simp only [put_size, hz, nx_push, nx_set]; first | done | omega)) only [go_sem, hz, a3]; first | done | rfl, h8.ow ((Ow.refl σ.next σ8).set (by omega) _) hlr hlb, ((((g4.trans g5).trans (g6.trans g7)).ow (ow7 _)).trans g8).ow ((Ow.refl σ.next σ8).set (by omega) _), by omega, by first | omega | (simp only [push_next, set_next]; first | done | omega), (set_ne (by omega)).trans gN8, ?_⟩
        have kM : ∀ B : Blk, Ks σ8 (σ8.set M B) := fun _ => (Ks.refl σ8).set (.inr (by rw [gM8])) _
        exact ⟨_, _, _, _, _, _, set_eq, ((t2.ks k7).ks k8).ks (kM _), ((t3.ks k7).ks k8).ks (kM _), ((t4.ks k7).ks k8).ks (kM _), ((q7.lo (fun k hk => by have := hk; omega)).ks k8).ks (kM _), (q8.lo (fun k hk => by have := hk; simp only [set_next] at this; omega)).ks (kM _), ((t7.ks k7).ks k8).ks (kM _)⟩
      | false =>
        rw [if_neg (by simp [cg])] at e7
        cases e7
        repeat (first | refine W_seqR ?_ | refine Ops_nil ?_ | refine O_op rfl (by simp (disch := first | decide | omega | (simp only [put_size, hz, nx_push, nx_set]; first | done | omega)) only [go_sem, hz, a0, a3]; first | done | rfl) ?_ | (refine O_gX rfl rfl (by simp (disch := first | decide | omega | (simp only [put_size, hz, nx_push, nx_set]; first | done | omega)) only [go_sem, hz, a0, a3]; first | done | rfl) ?_; with_reducible first | refine gX_tt ?_ | refine gX_ff ?_ | refine gX_tf ?_ | refine gX_ft ?_ | refine gX_u ?_) | refine W_regE ?_ | refine W_block ?_ | (refine W_cX (by simp (disch := first | decide | omega | (simp only [put_size, hz, nx_push, nx_set]; first | done | omega)) only [go_sem, hz, a0, a3]; first | done | rfl) ?_; with_reducible first | refine cX_t ?_ | refine cX_f ?_) | refine W_skip ?_ | refine W_seq ?_)
        exact ⟨rfl, by simp (disch := first | decide | omega | (simp only [put_size, hz, nx_push, nx_set]; first | done | omega)) only [go_sem, hz]; first | done | rfl, by simp (disch := first | decide | omega | (simp only [put_size, hz, nx_push, nx_set]; first | done | omega)) only [go_sem, hz, a0]; first | done | rfl, by simp (disch := first | decide | omega | (simp only [put_size, hz, nx_push, nx_set]; first | done | omega)) only [go_sem, hz, a2]; first | done | rfl, by simp (disch := first | decide | omega | (simp only [put_size, hz, nx_push, nx_set]; first | done | omega)) only [go_sem, hz, a3]; first | done | rfl, h5, g4.trans g5, lM, by omega, gN5, _, _, _, _, _, _, gM5, t2.ks k5, t3.ks k5, t4.ks k5, t5.ks k5, t6.ks k5, t7.ks k5⟩
    rintro _ A σ4 ⟨rfl, hz, a0, a2, a3, h4, g4, lM, nx4, gN4, v2, v3, v4, v5, v6, v7, gM4, t2, t3, t4, t5, t6, t7⟩
    simp only [Then]
    obtain ⟨v2a, v2b, v2c, rfl⟩ := rd_shape t2
    obtain ⟨v3a, v3b, v3c, rfl⟩ := rd_shape t3
    obtain ⟨v4a, v4b, v4c, rfl⟩ := rd_shape t4
    obtain ⟨v5a, v5b, v5c, rfl⟩ := rd_shape t5
    obtain ⟨v6a, v6b, v6c, rfl⟩ := rd_shape t6
    obtain ⟨v7a, v7b, v7c, rfl⟩ := rd_shape t7
    repeat (first | refine W_seqR ?_ | refine Ops_nil ?_ | refine O_op rfl (by simp (disch := first | decide | omega | (simp only [put_size, hz, nx_push, nx_set]; first | done | omega)) only [go_sem, hz, a0, a3]; first | done | rfl) ?_ | (refine O_gX rfl rfl (by simp (disch := first | decide | omega | (simp only [put_size, hz, nx_push, nx_set]; first | done | omega)) only [go_sem, hz, a0, a3]; first | done | rfl) ?_; with_reducible first | refine gX_tt ?_ | refine gX_ff ?_ | refine gX_tf ?_ | refine gX_ft ?_ | refine gX_u ?_) | refine W_regE ?_ | refine W_block ?_ | (refine W_cX (by simp (disch := first | decide | omega | (simp only [put_size, hz, nx_push, nx_set]; first | done | omega)) only [go_sem, hz, a0, a3]; first | done | rfl) ?_; with_reducible first | refine cX_t ?_ | refine cX_f ?_) | refine W_skip ?_ | refine W_seq ?_)
    refine O_call (by simp (disch := first | decide | omega | (simp only [put_size, hz, nx_push, nx_set]; first | done | omega)) only [go_sem, hz, a0]; first | done | rfl) ?_
    refine C.mono (take_c h4 w_order) ?_
    rintro _ σ5 ⟨rfl, h5, g5⟩
    have nx5 := g5.next
    have gN5 := (g5.get σ.next (by omega) (by omega)).trans gN4
    have gM5 := (g5.get M (by omega) (by omega)).trans gM4
    have k5 := g5.ks h4.ez
    (repeat (first | refine O_op rfl (by simp (disch := first | decide | omega | (simp only [put_size, hz, nx_push, nx_set]; first | done | omega)) only [go_sem, hz, a0, a3]; first | done | rfl) ?_ | (refine O_gX rfl rfl (by simp (disch := first | decide | omega | (simp only [put_size, hz, nx_push, nx_set]; first | done | omega)) only [go_sem, hz, a0, a3]; first | done | rfl) ?_; with_reducible first | refine gX_tt ?_ | refine gX_ff ?_ | refine gX_tf ?_ | refine gX_ft ?_ | refine gX_u ?_))); refine Ops_nil ?_
    refine W.mono (Q := fun e A' σ' => e = .normal ∧ PSt r b T d σ M A' σ' s8 di (-1) items froms wh gr ha or) ?_ ?_
    · rw [order_eq] at e8
      cases cg : (takeS w_order s7).1 with
      | true =>
        rw [if_pos cg] at e8
        repeat (first | refine W_seqR ?_ | refine Ops_nil ?_ | refine O_op rfl (by simp (disch := first | decide | omega | (simp only [put_size, hz, nx_push, nx_set]; first | done | omega)) only [go_sem, hz, a0, a3]; first | done | rfl) ?_ | (refine O_gX rfl rfl (by simp (disch := first | decide | omega | (simp only [put_size, hz, nx_push, nx_set]; first | done | omega)) only [go_sem, hz, a0, a3]; first | done | rfl) ?_; with_reducible first | refine gX_tt ?_ | refine gX_ff ?_ | refine gX_tf ?_ | refine gX_ft ?_ | refine gX_u ?_) | refine W_regE ?_ | refine W_block ?_ | (refine W_cX (by simp (disch := first | decide | omega | (simp only [put_size, hz, nx_push, nx_set]; first | done | omega)) only [go_sem, hz, a0, a3]; first | done | rfl) ?_; with_reducible first | refine cX_t ?_ | refine cX_f ?_) | refine W_skip ?_ | refine W_seq ?_)
        refine O_call (by simp (disch := first | decide | omega | (simp only [put_size, hz, nx_push, nx_set]; first | done | omega)) only [go_sem, hz, a0]; first | done | rfl) ?_
        refine C.mono (want_c h5 w_by) ?_
        rintro _ σ6 ⟨h6, g6⟩
        have nx6 := g6.next
        have gN6 := (g6.get σ.next (by omega) (by omega)).trans gN5
        have gM6 := (g6.get M (by omega) (by omega)).trans gM5
        have k6 := k5.trans (g6.ks h5.ez)
        repeat (first | refine W_seqR ?_ | refine Ops_nil ?_ | refine O_op rfl (by simp (disch := first | decide | omega | (simp only [put_size, hz, nx_push, nx_set]; first | done | omega)) only [go_sem, hz, a0, a3]; first | done | rfl) ?_ | (refine O_gX rfl rfl (by simp (disch := first | decide | omega | (simp only [put_size, hz, nx_push, nx_set]; first | done | omega)) only [go_sem, hz, a0, a3]; first | done | rfl) ?_; with_reducible first | refine gX_tt ?_ | refine gX_ff ?_ | refine gX_tf ?_ | refine gX_ft ?_ | refine gX_u ?_) | refine W_regE ?_ | refine W_block ?_ | (refine W_cX (by simp (disch := first | decide | omega | (simp only [put_size, hz, nx_push, nx_set]; first | done | omega)) only [go_sem, hz, a0, a3]; first | done | rfl) ?_; with_reducible first | refine cX_t ?_ | refine cX_f ?_) | refine W_skip ?_ | refine W_seq ?_)
        refine O_call (by simp (disch := first | decide | omega | (simp only [put_size, hz, nx_push, nx_set]; first | done | omega)) only [go_sem, hz, a0]; first | done | rfl) ?_
        refine C.mono (listK_c (fs := [.pointer (some ⟨r, 0, none⟩)]) (cs := []) stable_true (shr_key hK.sh) (key_c hK) m_comma _ _ trivial h6) ?_
        rw [e8]
        rintro x7 σ7 ⟨q7, h7, g7⟩
        have nx7 := g7.next
        try simp only [set_next] at nx7
        have gN7 := (g7.get σ.next (by omega) (by omega)).trans gN6
        have gM7 := (g7.get M (by omega) (by omega)).trans gM6
        have k7 := k6.trans (g7.ks h6.ez)
        obtain ⟨y5, y6, y7, rfl⟩ := rd_shape q7
        repeat (first | refine W_seqR ?_ | refine Ops_nil ?_ | refine O_op rfl (by simp (disch := first | decide | omega | (simp only [put_size, hz, nx_push, nx_set]; first | done | omega)) only [go_sem, hz, a0, a3, gM7]; first | done | rfl) ?_ | (refine O_gX rfl rfl (by simp (disch := first | decide | omega | (simp only [put_size, hz, nx_push, nx_set]; first | done | omega)) only [go_sem, hz, a0, a3, gM7]; first | done | rfl) ?_; with_reducible first | refine gX_tt ?_ | refine gX_ff ?_ | refine gX_tf ?_ | refine gX_ft ?_ | refine gX_u ?_) | refine W_regE ?_ | refine W_block ?_ | (refine W_cX (by simp (disch := first | decide | omega | (simp only [put_size, hz, nx_push, nx_set]; first | done | omega)) only [go_sem, hz, a0, a3, gM7]; first | done | rfl) ?_; with_reducible first | refine cX_t ?_ | refine cX_f ?_) | refine W_skip ?_ | refine W_seq ?_)
        refine ⟨rfl, by simp (disch := first | decide | omega | (simp only [put_size, hz, nx_push, nx_set]; first | done | omega)) only [go_sem, hz]; first | done | rfl, by simp (disch := first | decide | omega | (simp only [put_size, hz, nx_push, nx_set]; first | done | omega)) only [go_sem, hz, a0]; first | done | rfl, by simp (disch := first | decide | omega | (simp only [put_size, hz, nx_push, nx_set]; first | done | omega)) only [go_sem, hz, a2]; first | done | rfl, by simp (disch := first | decide | omega | (simp only [put_size, hz, nx_push, nx_set]; first | done | omega)) only [go_sem, hz, a3]; first | done | rfl, h7.ow ((Ow.refl σ.next σ7).set (by omega) _) hlr hlb, ((g4.trans g5).trans (g6.trans g7)).ow ((Ow.refl σ.next σ7).set (by omega) _), by omega, by first | omega | (simp only [push_next, set_next]; first | done | omega), (set_ne (by omega)).trans gN7, ?_⟩
        have kM : ∀ B : Blk, Ks σ7 (σ7.set M B) := fun _ => (Ks.refl σ7).set (.inr (by rw [gM7])) _
        exact ⟨_, _, _, _, _, _, set_eq, (t2.ks k7).ks (kM _), (t3.ks k7).ks (kM _), (t4.ks k7).ks (kM _), (t5.ks k7).ks (kM _), (t6.ks k7).ks (kM _), (q7.lo (fun k hk => by have := hk; omega)).ks (kM _)⟩
      | false =>
        rw [if_neg (by simp [cg])] at e8
        cases e8
        repeat (first | refine W_seqR ?_ | refine Ops_nil ?_ | refine O_op rfl (by simp (disch := first | decide | omega | (simp only [put_size, hz, nx_push, nx_set]; first | done | omega)) only [go_sem, hz, a0, a3]; first | done | rfl) ?_ | (refine O_gX rfl rfl (by simp (disch := first | decide | omega | (simp only [put_size, hz, nx_push, nx_set]; first | done | omega)) only [go_sem, hz, a0, a3]; first | done | rfl) ?_; with_reducible first | refine gX_tt ?_ | refine gX_ff ?_ | refine gX_tf ?_ | refine gX_ft ?_ | refine gX_u ?_) | refine W_regE ?_ | refine W_block ?_ | (refine W_cX (by simp (disch := first | decide | omega | (simp only [put_size, hz, nx_push, nx_set]; first | done | omega)) only [go_sem, hz, a0, a3]; first | done | rfl) ?_; with_reducible first | refine cX_t ?_ | refine cX_f ?_) | refine W_skip ?_ | refine W_seq ?_)
        exact ⟨rfl, by simp (disch := first | decide | omega | (simp only [put_size, hz, nx_push, nx_set]; first | done | omega)) only [go_sem, hz]; first | done | rfl, by simp (disch := first | decide | omega | (simp only [put_size, hz, nx_push, nx_set]; first | done | omega)) only [go_sem, hz, a0]; first | done | rfl, by simp (disch := first | decide | omega | (simp only [put_size, hz, nx_push, nx_set]; first | done | omega)) only [go_sem, hz, a2]; first | done | rfl, by simp (disch := first | decide | omega | (simp only [put_size, hz, nx_push, nx_set]; first | done | omega)) only [go_sem, hz, a3]; first | done | rfl, h5, g4.trans g5, lM, by omega, gN5, _, _, _, _, _, _, gM5, t2.ks k5, t3.ks k5, t4.ks k5, t5.ks k5, t6.ks k5, t7.ks k5⟩
    rintro _ A σ4 ⟨rfl, hz, a0, a2, a3, h4, g4, lM, nx4, gN4, v2, v3, v4, v5, v6, v7, gM4, t2, t3, t4, t5, t6, t7⟩
    simp only [Then]
    obtain ⟨v2a, v2b, v2c, rfl⟩ := rd_shape t2
    obtain ⟨v3a, v3b, v3c, rfl⟩ := rd_shape t3
    obtain ⟨v4a, v4b, v4c, rfl⟩ := rd_shape t4
    obtain ⟨v5a, v5b, v5c, rfl⟩ := rd_shape t5
    obtain ⟨v6a, v6b, v6c, rfl⟩ := rd_shape t6
    obtain ⟨v7a, v7b, v7c, rfl⟩ := rd_shape t7
    repeat (first | refine W_seqR ?_ | refine Ops_nil ?_ | refine O_op rfl (by simp (disch := first | decide | omega | (simp only [put_size, hz, nx_push, nx_set]; first | done | omega)) only [go_sem, hz, a0, a3]; first | done | rfl) ?_ | (refine O_gX rfl rfl (by simp (disch := first | decide | omega | (simp only [put_size, hz, nx_push, nx_set]; first | done | omega)) only [go_sem, hz, a0, a3]; first | done | rfl) ?_; with_reducible first | refine gX_tt ?_ | refine gX_ff ?_ | refine gX_tf ?_ | refine gX_ft ?_ | refine gX_u ?_) | refine W_regE ?_ | refine W_block ?_ | (refine W_cX (by simp (disch := first | decide | omega | (simp only [put_size, hz, nx_push, nx_set]; first | done | omega)) only [go_sem, hz, a0, a3]; first | done | rfl) ?_; with_reducible first | refine cX_t ?_ | refine cX_f ?_) | refine W_skip ?_ | refine W_seq ?_)
    refine O_call (by simp (disch := first | decide | omega | (simp only [put_size, hz, nx_push, nx_set]; first | done | omega)) only [go_sem, hz, a0]; first | done | rfl) ?_
    refine C.mono (take_c h4 w_limit) ?_
    rintro _ σ5 ⟨rfl, h5, g5⟩
    have nx5 := g5.next
    have gN5 := (g5.get σ.next (by omega) (by omega)).trans gN4
    have gM5 := (g5.get M (by omega) (by omega)).trans gM4
    have k5 := g5.ks h4.ez
    (repeat (first | refine O_op rfl (by simp (disch := first | decide | omega | (simp only [put_size, hz, nx_push, nx_set]; first | done | omega)) only [go_sem, hz, a0, a3]; first | done | rfl) ?_ | (refine O_gX rfl rfl (by simp (disch := first | decide | omega | (simp only [put_size, hz, nx_push, nx_set]; first | done | omega)) only [go_sem, hz, a0, a3]; first | done | rfl) ?_; with_reducible first | refine gX_tt ?_ | refine gX_ff ?_ | refine gX_tf ?_ | refine gX_ft ?_ | refine gX_u ?_))); refine Ops_nil ?_
    refine W.mono (Q := fun e A' σ' => e = .normal ∧ PSt r b T d σ M A' σ' s9 di n items froms wh gr ha or) ?_ ?_
    · rw [limit_eq] at e9
      cases cg : (takeS w_limit s8).1 with
      | true =>
        rw [if_pos cg] at e9
        repeat (first | refine W_seqR ?_ | refine Ops_nil ?_ | refine O_op rfl (by simp (disch := first | decide | omega | (simp only [put_size, hz, nx_push, nx_set]; first | done | omega)) only [go_sem, hz, a0, a3]; first | done | rfl) ?_ | (refine O_gX rfl rfl (by simp (disch := first | decide | omega | (simp only [put_size, hz, nx_push, nx_set]; first | done | omega)) only [go_sem, hz, a0, a3]; first | done | rfl) ?_; with_reducible first | refine gX_tt ?_ | refine gX_ff ?_ | refine gX_tf ?_ | refine gX_ft ?_ | refine gX_u ?_) | refine W_regE ?_ | refine W_block ?_ | (refine W_cX (by simp (disch := first | decide | omega | (simp only [put_size, hz, nx_push, nx_set]; first | done | omega)) only [go_sem, hz, a0, a3]; first | done | rfl) ?_; with_reducible first | refine cX_t ?_ | refine cX_f ?_) | refine W_skip ?_ | refine W_seq ?_)
        refine O_call (by simp (disch := first | decide | omega | (simp only [put_size, hz, nx_push, nx_set]; first | done | omega)) only [go_sem, hz, a0]; first | done | rfl) ?_
        refine C.mono (number_c h5) ?_
        rw [e9]
        rintro _ σ7 ⟨rfl, h7, g7⟩
        have nx7 := g7.next
        have gN7 := (g7.get σ.next (by omega) (by omega)).trans gN5
        have gM7 := (g7.get M (by omega) (by omega)).trans gM5
        have k7 := k5.trans (g7.ks h5.ez)
        repeat (first | refine W_seqR ?_ | refine Ops_nil ?_ | refine O_op rfl (by simp (disch := first | decide | omega | (simp only [put_size, hz, nx_push, nx_set]; first | done | omega)) only [go_sem, hz, a0, a3, gM7]; first | done | rfl) ?_ | (refine O_gX rfl rfl (by simp (disch := first | decide | omega | (simp only [put_size, hz, nx_push, nx_set]; first | done | omega)) only [go_sem, hz, a0, a3, gM7]; first | done | rfl) ?_; with_reducible first | refine gX_tt ?_ | refine gX_ff ?_ | refine gX_tf ?_ | refine gX_ft ?_ | refine gX_u ?_) | refine W_regE ?_ | refine W_block ?_ | (refine W_cX (by simp (disch := first | decide | omega | (simp only [put_size, hz, nx_push, nx_set]; first | done | omega)) only [go_sem, hz, a0, a3, gM7]; first | done | rfl) ?_; with_reducible first | refine cX_t ?_ | refine cX_f ?_) | refine W_skip ?_ | refine W_seq ?_)
        refine ⟨rfl, by simp (disch := first | decide | omega | (simp only [put_size, hz, nx_push, nx_set]; first | done | omega)) only [go_sem, hz]; first | done | rfl, by simp (disch := first | decide | omega | (simp only [put_size, hz, nx_push, nx_set]; first | done | omega)) only [go_sem, hz, a0]; first | done | rfl, by simp (disch := first | decide | omega | (simp only [put_size, hz, nx_push, nx_set]; first | done | omega)) only [go_sem, hz, a2]; first | done | rfl, by simp (disch := first | decide | omega | (simp only [put_size, hz, nx_push, nx_set]; first | done | omega)) only [go_sem, hz, a3]; first | done | rfl, h7.ow ((Ow.refl σ.next σ7).set (by omega) _) hlr hlb, ((g4.trans g5).trans g7).ow ((Ow.refl σ.next σ7).set (by omega) _), by omega, by first | omega | (simp only [push_next, set_next]; first | done | omega), (set_ne (by omega)).trans gN7, ?_⟩
        have kM : ∀ B : Blk, Ks σ7 (σ7.set M B) := fun _ => (Ks.refl σ7).set (.inr (by rw [gM7])) _
        exact ⟨_, _, _, _, _, _, set_eq, (t2.ks k7).ks (kM _), (t3.ks k7).ks (kM _), (t4.ks k7).ks (kM _), (t5.ks k7).ks (kM _), (t6.ks k7).ks (kM _), (t7.ks k7).ks (kM _)⟩
      | false =>
        rw [if_neg (by simp [cg])] at e9
        cases e9
        repeat (first | refine W_seqR ?_ | refine Ops_nil ?_ | refine O_op rfl (by simp (disch := first | decide | omega | (simp only [put_size, hz, nx_push, nx_set]; first | done | omega)) only [go_sem, hz, a0, a3]; first | done | rfl) ?_ | (refine O_gX rfl rfl (by simp (disch := first | decide | omega | (simp only [put_size, hz, nx_push, nx_set]; first | done | omega)) only [go_sem, hz, a0, a3]; first | done | rfl) ?_; with_reducible first | refine gX_tt ?_ | refine gX_ff ?_ | refine gX_tf ?_ | refine gX_ft ?_ | refine gX_u ?_) | refine W_regE ?_ | refine W_block ?_ | (refine W_cX (by simp (disch := first | decide | omega | (simp only [put_size, hz, nx_push, nx_set]; first | done | omega)) only [go_sem, hz, a0, a3]; first | done | rfl) ?_; with_reducible first | refine cX_t ?_ | refine cX_f ?_) | refine W_skip ?_ | refine W_seq ?_)
        exact ⟨rfl, by simp (disch := first | decide | omega | (simp only [put_size, hz, nx_push, nx_set]; first | done | omega)) only [go_sem, hz]; first | done | rfl, by simp (disch := first | decide | omega | (simp only [put_size, hz, nx_push, nx_set]; first | done | omega)) only [go_sem, hz, a0]; first | done | rfl, by simp (disch := first | decide | omega | (simp only [put_size, hz, nx_push, nx_set]; first | done | omega)) only [go_sem, hz, a2]; first | done | rfl, by simp (disch := first | decide | omega | (simp only [put_size, hz, nx_push, nx_set]; first | done | omega)) only [go_sem, hz, a3]; first | done | rfl, h5, g4.trans g5, lM, by omega, gN5, _, _, _, _, _, _, gM5, t2.ks k5, t3.ks k5, t4.ks k5, t5.ks k5, t6.ks k5, t7.ks k5⟩
    rintro _ A σ4 ⟨rfl, hz, a0, a2, a3, h4, g4, lM, nx4, gN4, v2, v3, v4, v5, v6, v7, gM4, t2, t3, t4, t5, t6, t7⟩
    simp only [Then]
    obtain ⟨v2a, v2b, v2c, rfl⟩ := rd_shape t2
    obtain ⟨v3a, v3b, v3c, rfl⟩ := rd_shape t3
    obtain ⟨v4a, v4b, v4c, rfl⟩ := rd_shape t4
    obtain ⟨v5a, v5b, v5c, rfl⟩ := rd_shape t5
    obtain ⟨v6a, v6b, v6c, rfl⟩ := rd_shape t6
    obtain ⟨v7a, v7b, v7c, rfl⟩ := rd_shape t7
    repeat (first | refine W_seqR ?_ | refine Ops_nil ?_ | refine O_op rfl (by simp (disch := first | decide | omega | (simp only [put_size, hz, nx_push, nx_set]; first | done | omega)) only [go_sem, hz, a0, a2, a3, gM4, gN4]; first | done | rfl) ?_ | (refine O_gX rfl rfl (by simp (disch := first | decide | omega | (simp only [put_size, hz, nx_push, nx_set]; first | done | omega)) only [go_sem, hz, a0, a2, a3, gM4, gN4]; first | done | rfl) ?_; with_reducible first | refine gX_tt ?_ | refine gX_ff ?_ | refine gX_tf ?_ | refine gX_ft ?_ | refine gX_u ?_) | refine W_regE ?_ | refine W_block ?_ | (refine W_cX (by simp (disch := first | decide | omega | (simp only [put_size, hz, nx_push, nx_set]; first | done | omega)) only [go_sem, hz, a0, a2, a3, gM4, gN4]; first | done | rfl) ?_; with_reducible first | refine cX_t ?_ | refine cX_f ?_) | refine W_skip ?_ | refine W_seq ?_)
    refine W_ret ?_; (try simp only [Then, Out, Jump, JumpL]); refine ret_mk (by simp (disch := first | decide | omega | (simp only [put_size, hz, nx_push, nx_set]; first | done | omega)) only [go_sem, hz, a2, gN4]; first | done | rfl) ?_; (try simp only [resultA])
    have kN : ∀ B : Blk, Ks σ4 (σ4.set σ.next B) := fun _ => (Ks.refl σ4).set (.inr (by rw [gN4])) _
    exact post_fin ((Ow.refl _ _).set (Nat.le_refl _) _) g4 h4 hlr hlb (te_mkQ (t2.ks (kN _)) (t3.ks (kN _)) (t4.ks (kN _)) (t5.ks (kN _)) (t6.ks (kN _)) (t7.ks (kN _)) (rd_nil _ _ _))
end
end Go.Proofs.YtailfiofcicloaaGreatDoor

namespace Go.Proofs.YtailfiofcicloaaGreatDoor
open Go.RowKit
set_option linter.unusedVariables false

section
variable {r b : Nat} {T : List Tk}
/-- What reads one level, where what stands one deeper is read by K. -/
theorem level_or (hW : WordOK) {K : Knot} {d : Int} (hK : KOK K r b T d) : Reads (fun _ => True) 6 r b T d 117 [.pointer (some ⟨r, 0, none⟩)] (unaryS K) ∧ Reads (fun _ => True) 6 r b T d 48 [.pointer (some ⟨r, 0, none⟩)] (notS K) ∧ Reads (fun _ => True) 6 r b T d 11 [.pointer (some ⟨r, 0, none⟩)] (orS K) ∧ Reads (fun _ => True) 10 r b T d 16 [.pointer (some ⟨r, 0, none⟩)] (partsS K) := by
  have h1 := unary_c hK (prim_c hW hK)
  have h2 := not_c hK (compared_c hK (sum_c (shr_product hK.sh) (product_c (shr_unary hK.sh) h1)))
  exact ⟨h1, h2, or_c (shr_and hK.sh) (and_c (shr_not hK.sh) h2), parts_c hK (part_c hW hK)⟩
theorem knot_c (hW : WordOK) : ∀ (n : Nat) (d : Int), d + n = 40 → 0 ≤ d → KOK (knot n) r b T d
  | 0, d, hd, h0 => by
    have e : d = 40 := by omega
    have hE : ∀ (g : Nat) (fs cs : List Value), Reads (fun _ => True) 6 r b T d 21 [.pointer (some ⟨r, 0, none⟩), .func (.func g) ⟨fs⟩ ⟨cs⟩] (tooDeep zE) := fun g fs cs => by
      have := deeperE_c (r := r) (b := b) (T := T) (g := g) (fs := fs) (cs := cs) (m := tooDeep zE) stable_true h0 (by omega) (fun h => absurd h (by omega))
      rwa [if_pos e] at this
    have hQ : ∀ (g : Nat) (fs cs : List Value), Reads (fun _ => True) 10 r b T d 27 [.pointer (some ⟨r, 0, none⟩), .func (.func g) ⟨fs⟩ ⟨cs⟩] (tooDeep zQ) := fun g fs cs => by
      have := deeperQ_c (r := r) (b := b) (T := T) (g := g) (fs := fs) (cs := cs) (m := tooDeep zQ) stable_true h0 (by omega) (fun h => absurd h (by omega))
      rwa [if_pos e] at this
    exact ⟨expr_c (hE _ _ _), hE _ _ _, hE _ _ _, query_c (hQ _ _ _), shr_knot 0⟩
  | n + 1, d, hd, h0 => by
    have hK := knot_c hW n (d + 1) (by omega) (by omega)
    obtain ⟨h1, h2, h3, h4⟩ := level_or hW hK
    have hE : ∀ {g : Nat} {fs cs : List Value} {m : SM Tr}, Reads (fun _ => True) 6 r b T (d + 1) g (fs ++ cs) m → Reads (fun _ => True) 6 r b T d 21 [.pointer (some ⟨r, 0, none⟩), .func (.func g) ⟨fs⟩ ⟨cs⟩] m := fun h => by
      have := deeperE_c stable_true h0 (by omega) (fun _ => h)
      rwa [if_neg (by omega)] at this
    have hQ : ∀ {g : Nat} {fs cs : List Value} {m : SM Tr}, Reads (fun _ => True) 10 r b T (d + 1) g (fs ++ cs) m → Reads (fun _ => True) 10 r b T d 27 [.pointer (some ⟨r, 0, none⟩), .func (.func g) ⟨fs⟩ ⟨cs⟩] m := fun h => by
      have := deeperQ_c stable_true h0 (by omega) (fun _ => h)
      rwa [if_neg (by omega)] at this
    exact ⟨expr_c (hE (fs := [.pointer (some ⟨r, 0, none⟩)]) (cs := []) h3), hE (fs := [.pointer (some ⟨r, 0, none⟩)]) (cs := []) h2, hE (fs := [.pointer (some ⟨r, 0, none⟩)]) (cs := []) h1, query_c (hQ (fs := [.pointer (some ⟨r, 0, none⟩)]) (cs := []) h4), shr_knot (n + 1)⟩
end
end Go.Proofs.YtailfiofcicloaaGreatDoor

namespace Go.Proofs.YtailfiofcicloaaGreatDoor
open Go.RowKit Go.Sort

/-- The number fits 64 bits. -/
def inR (z : Int) : Prop := -9223372036854775808 ≤ z ∧ z ≤ 9223372036854775807
theorem inR_wf {z : Int} (h : (Lit.int .i64 z).wf = true) : inR z := by
  simp only [Lit.wf, IntKind.min, IntKind.max, IntKind.signed, IntKind.bits, Bool.and_eq_true, decide_eq_true_eq, if_true] at h
  unfold inR; omega
/-- The empty text. -/
abbrev E0 : ByteArray := ⟨#[]⟩
theorem empty_of {s : ByteArray} (h : s.toList = []) : s = E0 := by
  rw [ByteArray.toList_eq] at h
  cases s with
  | mk d => simp at h; rw [h]
theorem toList_inj {a b : ByteArray} (h : a.toList = b.toList) : a = b := by
  rw [ByteArray.toList_eq, ByteArray.toList_eq] at h
  cases a with
  | mk x => cases b with
    | mk y => simp at h; rw [h]
theorem toList_beq (a b : ByteArray) : (a.toList == b.toList) = decide (a = b) := by
  by_cases h : a = b
  · subst h; simp
  · have : ¬ a.toList = b.toList := fun e => h (toList_inj e)
    simp [h, this]

theorem bnew {w w1 : World} {o : Obj} (h : Below (w.alloc o).heap.size (w.alloc o) w1) : Below w.heap.size w w1 :=
  ((Below.refl w.heap.size w).alloc (Nat.le_refl _) o).trans (h.mono (by simp))
theorem bcell {W w1 : World} (hb : Below W.heap.size W w1) : (∀ b o, b < W.heap.size → w1.cell? ⟨b, o, none⟩ = W.cell? ⟨b, o, none⟩) ∧ (∀ b o, b < W.heap.size → w1.frozen? ⟨b, o, none⟩ = W.frozen? ⟨b, o, none⟩) :=
  ⟨fun b o h => hb.cell (p := ⟨b, o, none⟩) h, fun b o h => hb.frozen (p := ⟨b, o, none⟩) h⟩
theorem btrans {a b c : World} (h : Below a.heap.size a b) (k : Below b.heap.size b c) : Below a.heap.size a c := h.trans (k.mono h.size)
theorem cell_keep {w w' : World} {a : Addr} {v : Value} (h : w.cell? a = some v) (k : Below w.heap.size w w') : w'.cell? a = some v := (k.cell (block_lt_of_cell h)).trans h
theorem ret_int {k : IntKind} {a b : Int} (h : a = b) : Ending.returned (.int k a) = .returned (.int k b) := by rw [h]
theorem ret_bool {a b : Bool} (h : a = b) : Ending.returned (.bool a) = .returned (.bool b) := by rw [h]

/-- v is a slice of one-cell elements and holds cs. -/
def LiesC (w : World) (v : Value) (cs : List Value) : Prop :=
  ∃ ao cap, v = .slice ao cs.length cap ∧ ((ao = none → cap = 0) ∧ cs.length ≤ cap) ∧ ∀ i (h : i < cs.length), ∃ b off, ao = some ⟨b, off, none⟩ ∧ w.cell? ⟨b, off + i, none⟩ = some cs[i]
theorem LiesC.keep {w w' : World} {v : Value} {cs : List Value} (h : LiesC w v cs) (k : Below w.heap.size w w') : LiesC w' v cs := by
  obtain ⟨ao, cap, rfl, hn, hc⟩ := h
  refine ⟨ao, cap, rfl, hn, fun i hi => ?_⟩
  obtain ⟨b, off, h0, h1⟩ := hc i hi
  exact ⟨b, off, h0, cell_keep h1 k⟩
/-- v is a slice of texts and holds L. -/
def LiesS (w : World) (v : Value) (L : List ByteArray) : Prop :=
  ∃ ao cap, v = .slice ao L.length cap ∧ ((ao = none → cap = 0) ∧ L.length ≤ cap) ∧ ∀ i (h : i < L.length), ∃ b off, ao = some ⟨b, off, none⟩ ∧ w.cell? ⟨b, off + i, none⟩ = some (.string L[i])
theorem LiesS.keep {w w' : World} {v : Value} {L : List ByteArray} (h : LiesS w v L) (k : Below w.heap.size w w') : LiesS w' v L := by
  obtain ⟨ao, cap, rfl, hn, hc⟩ := h
  refine ⟨ao, cap, rfl, hn, fun i hi => ?_⟩
  obtain ⟨b, off, h0, h1⟩ := hc i hi
  exact ⟨b, off, h0, cell_keep h1 k⟩
/-- v is a slice of numbers and holds L. -/
def LiesN (w : World) (v : Value) (L : List Int) : Prop :=
  ∃ ao cap, v = .slice ao L.length cap ∧ ((ao = none → cap = 0) ∧ L.length ≤ cap) ∧ ∀ i (h : i < L.length), ∃ b off, ao = some ⟨b, off, none⟩ ∧ w.cell? ⟨b, off + i, none⟩ = some (.int .i64 L[i])
theorem LiesN.keep {w w' : World} {v : Value} {L : List Int} (h : LiesN w v L) (k : Below w.heap.size w w') : LiesN w' v L := by
  obtain ⟨ao, cap, rfl, hn, hc⟩ := h
  refine ⟨ao, cap, rfl, hn, fun i hi => ?_⟩
  obtain ⟨b, off, h0, h1⟩ := hc i hi
  exact ⟨b, off, h0, cell_keep h1 k⟩
/-- v is a slice of pairs of texts and holds E. -/
def LiesP (w : World) (v : Value) (E : List (ByteArray × ByteArray)) : Prop :=
  ∃ ao cap, v = .slice ao E.length cap ∧ ((ao = none → cap = 0) ∧ E.length ≤ cap) ∧ ∀ i (h : i < E.length), ∃ b off, ao = some ⟨b, off, none⟩ ∧ w.cell? ⟨b, off + i * 2, none⟩ = some (.string E[i].1) ∧ w.cell? ⟨b, off + i * 2 + 1, none⟩ = some (.string E[i].2)
theorem LiesP.keep {w w' : World} {v : Value} {E : List (ByteArray × ByteArray)} (h : LiesP w v E) (k : Below w.heap.size w w') : LiesP w' v E := by
  obtain ⟨ao, cap, rfl, hn, hc⟩ := h
  refine ⟨ao, cap, rfl, hn, fun i hi => ?_⟩
  obtain ⟨b, off, h0, h1, h2⟩ := hc i hi
  exact ⟨b, off, h0, cell_keep h1 k, cell_keep h2 k⟩
theorem lieS_at {w w' : World} {ao : Option Addr} {L : List ByteArray} (hc : ∀ i (h : i < L.length), ∃ b off, ao = some ⟨b, off, none⟩ ∧ w.cell? ⟨b, off + i, none⟩ = some (.string L[i])) (k : Below w.heap.size w w') {i : Nat} (h : i < L.length) :
    ∃ b off, ao = some ⟨b, off, none⟩ ∧ w'.cell? ⟨b, off + i, none⟩ = some (.string L[i]) := by
  obtain ⟨b, off, h0, h1⟩ := hc i h
  exact ⟨b, off, h0, cell_keep h1 k⟩
theorem lieN_at {w w' : World} {ao : Option Addr} {L : List Int} (hc : ∀ i (h : i < L.length), ∃ b off, ao = some ⟨b, off, none⟩ ∧ w.cell? ⟨b, off + i, none⟩ = some (.int .i64 L[i])) (k : Below w.heap.size w w') {i : Nat} (h : i < L.length) :
    ∃ b off, ao = some ⟨b, off, none⟩ ∧ w'.cell? ⟨b, off + i, none⟩ = some (.int .i64 L[i]) := by
  obtain ⟨b, off, h0, h1⟩ := hc i h
  exact ⟨b, off, h0, cell_keep h1 k⟩
theorem lieP_at {w w' : World} {ao : Option Addr} {E : List (ByteArray × ByteArray)} (hc : ∀ i (h : i < E.length), ∃ b off, ao = some ⟨b, off, none⟩ ∧ w.cell? ⟨b, off + i * 2, none⟩ = some (.string E[i].1) ∧ w.cell? ⟨b, off + i * 2 + 1, none⟩ = some (.string E[i].2)) (k : Below w.heap.size w w') {i : Nat} (h : i < E.length) :
    ∃ b off, ao = some ⟨b, off, none⟩ ∧ w'.cell? ⟨b, off + i * 2, none⟩ = some (.string E[i].1) ∧ w'.cell? ⟨b, off + i * 2 + 1, none⟩ = some (.string E[i].2) := by
  obtain ⟨b, off, h0, h1, h2⟩ := hc i h
  exact ⟨b, off, h0, cell_keep h1 k, cell_keep h2 k⟩

theorem LiesS.take {w : World} {b off k : Nat} {L : List ByteArray} {cap cap' : Nat} (h : LiesS w (.slice (some ⟨b, off, none⟩) L.length cap) L) (hk : k ≤ L.length) (hk' : k ≤ cap') : LiesS w (.slice (some ⟨b, off, none⟩) k cap') (L.take k) := by
  obtain ⟨ao, c, he, _, hc⟩ := h
  simp only [Value.slice.injEq] at he
  obtain ⟨rfl, _, rfl⟩ := he
  refine ⟨some ⟨b, off, none⟩, cap', by simp [Nat.min_eq_left hk], ⟨nofun, by simp; omega⟩, fun i hi => ?_⟩
  simp at hi
  obtain ⟨b', off', e, hcell⟩ := hc i (by omega)
  simp only [Option.some.injEq, Addr.mk.injEq] at e
  obtain ⟨rfl, rfl, _⟩ := e
  exact ⟨b, off, rfl, by simpa using hcell⟩

theorem LiesP.take {w : World} {b off k : Nat} {E : List (ByteArray × ByteArray)} {cap cap' : Nat} (h : LiesP w (.slice (some ⟨b, off, none⟩) E.length cap) E) (hk : k ≤ E.length) (hk' : k ≤ cap') : LiesP w (.slice (some ⟨b, off, none⟩) k cap') (E.take k) := by
  obtain ⟨ao, c, he, _, hc⟩ := h
  simp only [Value.slice.injEq] at he
  obtain ⟨rfl, _, rfl⟩ := he
  refine ⟨some ⟨b, off, none⟩, cap', by simp [Nat.min_eq_left hk], ⟨nofun, by simp; omega⟩, fun i hi => ?_⟩
  simp at hi
  obtain ⟨b', off', e, h1, h2⟩ := hc i (by omega)
  simp only [Option.some.injEq, Addr.mk.injEq] at e
  obtain ⟨rfl, rfl, _⟩ := e
  exact ⟨b, off, rfl, by simpa using h1, by simpa using h2⟩

/-- v is a slice of the calls' own, in a block from base on, of elements of type e that are one cell each, and holds xs. -/
def Own1 (w : World) (base : Nat) (e : TypeId) (v : Value) (xs : List Value) : Prop := w.ownsRow base e 1 v xs.length xs
theorem grownBy_of_below {w w' : World} (k : Below w.heap.size w w') : w.grownBy w' none := ⟨k.os, k.tape, k.output, k.size, fun i hi _ => k.block i hi⟩
theorem Own1.nil (w : World) (base : Nat) (e : TypeId) : Own1 w base e (.slice none 0 0) [] := World.ownsRow_nil _ _ _ _
theorem Own1.alloc {w : World} {base : Nat} {e : TypeId} {v : Value} {xs : List Value} (h : Own1 w base e v xs) (o : Obj) : Own1 (w.alloc o) base e v xs := World.ownsRow.alloc h o
theorem Own1.keep {w w' : World} {base : Nat} {e : TypeId} {v : Value} {xs : List Value} (h : Own1 w base e v xs) (k : Below w.heap.size w w') : Own1 w' base e v xs :=
  World.ownsRow.kept h (grownBy_of_below k) (by cases hv : v.ownBlock <;> simp)
theorem Own1.drew {w : World} {base : Nat} {e : TypeId} {v : Value} {xs : List Value} (h : Own1 w base e v xs) : Own1 w.drew base e v xs := h
theorem Own1.mono {w : World} {base base' : Nat} {e : TypeId} {v : Value} {xs : List Value} (h : Own1 w base e v xs) (hb : base' ≤ base) : Own1 w base' e v xs := by
  refine ⟨h.1, ?_⟩
  rcases h.2 with h | ⟨g, cap, cur, h1, h2, h3⟩
  · exact .inl h
  · exact .inr ⟨g, cap, cur, h1, Nat.le_trans hb h2, h3⟩
theorem Own1.shape {w : World} {base : Nat} {e : TypeId} {v : Value} {xs : List Value} (h : Own1 w base e v xs) : ∃ ao cap, v = .slice ao xs.length cap := by
  rcases h.2 with ⟨rfl, h0⟩ | ⟨g, cap, cur, rfl, _⟩
  · exact ⟨none, 0, by rw [h0]⟩
  · exact ⟨_, cap, rfl⟩
theorem Own1.shapeN {w : World} {base n : Nat} {e : TypeId} {v : Value} {xs : List Value} (h : Own1 w base e v xs) (hn : xs.length = n) : ∃ ao cap, v = .slice ao n cap := by
  subst hn; exact h.shape
theorem Own1.lies {w : World} {base : Nat} {e : TypeId} {v : Value} {xs : List Value} (h : Own1 w base e v xs) : LiesC w v xs := by
  rcases h.2 with ⟨rfl, h0⟩ | ⟨g, cap, cur, rfl, h3⟩
  · exact ⟨none, 0, by rw [h0], ⟨fun _ => rfl, by omega⟩, fun i hi => by omega⟩
  · refine ⟨_, cap, rfl, ⟨fun h => by simp at h, h3.2.2.1⟩, fun i hi => ⟨g, 0, rfl, ?_⟩⟩
    have := World.ownsRow.cells h (g := g) rfl i xs[i] (List.getElem?_eq_getElem hi)
    rwa [show (⟨g, 0, none⟩ : Addr).add i = ⟨g, 0 + i, none⟩ by unfold Addr.add; split <;> simp_all] at this
theorem LiesC.strings {w : World} {v : Value} {L : List ByteArray} (h : LiesC w v (L.map .string)) : LiesS w v L := by
  obtain ⟨ao, cap, h0, hn, hc⟩ := h
  refine ⟨ao, cap, by simpa using h0, by simpa using hn, fun i hi => ?_⟩
  obtain ⟨b, off, h1, h2⟩ := hc i (by simpa using hi)
  exact ⟨b, off, h1, by simpa using h2⟩
theorem LiesC.ints {w : World} {v : Value} {L : List Int} (h : LiesC w v (L.map (.int .i64))) : LiesN w v L := by
  obtain ⟨ao, cap, h0, hn, hc⟩ := h
  refine ⟨ao, cap, by simpa using h0, by simpa using hn, fun i hi => ?_⟩
  obtain ⟨b, off, h1, h2⟩ := hc i (by simpa using hi)
  exact ⟨b, off, h1, by simpa using h2⟩
theorem LiesS.cells {w : World} {v : Value} {L : List ByteArray} (h : LiesS w v L) : LiesC w v (L.map .string) := by
  obtain ⟨ao, cap, h0, hn, hc⟩ := h
  refine ⟨ao, cap, by simpa using h0, by simpa using hn, fun i hi => ?_⟩
  obtain ⟨b, off, h1, h2⟩ := hc i (by simpa using hi)
  exact ⟨b, off, h1, by simpa using h2⟩

/-- append(v, u...): u is any slice that lies in memory. -/
theorem wpList_cat1 {ops : Array Oper} {rest : List Oper} {o : Oper} {a : Act} {Q : Exit → Act → World → Prop} {w : World} {base : Nat} {v u : Value} {xs ys : List Value} {t e : TypeId} {z : Value} {bytes : Nat}
    (hinfo : (Tryz.prog.info? e).map (fun i => (i.zero, i.size, i.bytes)) = some (some z, 1, bytes)) (ht : Tryz.prog.underlying t = some (.slice e)) (hzc : z.cells.size = 1) (hby : bytes ≤ 64)
    (s x : Operand) (hgd : o.guard = none) (ho : o.op = .call { callee := .builtin .append, args := #[s, x], argTypes := #[t, t] })
    (hs : a.eval s = v) (hx : a.eval x = u) (hown : Own1 w base e v xs) (hsrc : LiesC w u ys) (h1 : ∀ y ∈ ys, y.oneCell' = true) (hb : base ≤ w.heap.size) (hlen : xs.length + ys.length ≤ 1000000000)
    (h : ∀ v' w', Own1 w' base e v' (xs ++ ys) → Below base w w' → w.grownBy w' v.ownBlock → wpList Tryz.prog ops Q rest (a.put o.dst v') w') :
    wpList Tryz.prog ops Q (o :: rest) a w := by
  obtain ⟨i0, hi, hz0, hz1, hz2⟩ := info_parts hinfo
  obtain ⟨ao, cap, rfl, hn, hc⟩ := hsrc
  cases ao with
  | none =>
    have h0 : ys = [] := by
      cases ys with
      | nil => rfl
      | cons y r => obtain ⟨b, off, hx, _⟩ := hc 0 (by simp); cases hx
    subst h0
    rw [hn.1 rfl] at hx
    refine wpList_append_own_none hgd s x t ho base e i0 1 ht hi v xs.length xs hs hown hx ?_
    exact h v w (by rw [List.append_nil]; exact hown) (Below.refl _ _) ⟨rfl, rfl, rfl, Nat.le_refl _, fun _ _ _ => rfl⟩
  | some ad =>
    refine wpList_append_own _ hgd s x t ho base e i0 z 1 bytes ht hi hz0 hz1 hz2 hzc (by decide) v xs.length xs hs hown ad ys.length cap ys hx (by rw [Nat.mul_one]) ?_ h1 ?_ ?_ hb ?_
    · intro j u hj
      obtain ⟨hjl, rfl⟩ := List.getElem?_eq_some_iff.1 hj
      obtain ⟨b, off, hx, hcell⟩ := hc j hjl
      simp only [Option.some.injEq] at hx
      subst hx
      rw [show (⟨b, off, none⟩ : Addr).add j = ⟨b, off + j, none⟩ by unfold Addr.add; split <;> simp_all]
      exact hcell
    · unfold maxLen; omega
    · exact Nat.le_trans (Nat.mul_le_mul hlen hby) (by decide)
    · intro v' w' g1 g2 _
      refine h v' w' ?_ (Below.grown (Below.refl _ _) g2 hb fun k hk => (World.ownsRow.lt hown k hk).1) g2
      unfold Own1
      rw [List.length_append]
      exact g1

/-- One append of what lies in a new block. -/
theorem wpList_push1 {ops : Array Oper} {rest : List Oper} {o : Oper} {a : Act} {Q : Exit → Act → World → Prop} {w : World} {base : Nat} {v : Value} {xs ys : List Value} {t e : TypeId} {z : Value} {bytes : Nat} {C : Array Value} {H : Nat}
    (hinfo : (Tryz.prog.info? e).map (fun i => (i.zero, i.size, i.bytes)) = some (some z, 1, bytes)) (ht : Tryz.prog.underlying t = some (.slice e)) (hzc : z.cells.size = 1) (hby : bytes ≤ 64)
    (s x : Operand) (hgd : o.guard = none) (ho : o.op = .call { callee := .builtin .append, args := #[s, x], argTypes := #[t, t] })
    (hs : a.eval s = v) (hx : a.eval x = .slice (some ⟨H, 0, none⟩) ys.length ys.length) (hH : w.heap.size = H) (hC : C.toList = ys) (hown : Own1 w base e v xs) (h1 : ∀ y ∈ ys, y.oneCell' = true) (hb : base ≤ w.heap.size) (hlen : xs.length + ys.length ≤ 1000000000)
    (h : ∀ v' w', Own1 w' base e v' (xs ++ ys) → Below base w w' → w.grownBy w' v.ownBlock → wpList Tryz.prog ops Q rest (a.put o.dst v') w') :
    wpList Tryz.prog ops Q (o :: rest) a (w.alloc (.cells C e)) := by
  subst hH
  refine wpList_cat1 hinfo ht hzc hby s x hgd ho hs hx (hown.alloc _) ⟨_, _, rfl, ⟨fun h => by simp at h, Nat.le_refl _⟩, fun i hi => ⟨w.heap.size, 0, rfl, ?_⟩⟩ h1 (by simp; omega) hlen ?_
  · rw [cell_of_row _ w.heap.size (0 + i) C e (0, 0) (heap_alloc_new w _), Nat.zero_add]
    subst hC
    simp at hi
    simp [hi]
  · intro v' w' g1 g2 g3
    refine h v' w' g1 (((Below.refl _ _).alloc hb _).trans g2) ?_
    have ga := World.grownBy_alloc w (.cells C e) v.ownBlock
    exact ⟨g3.os.trans ga.os, g3.tape.trans ga.tape, g3.output.trans ga.output, Nat.le_trans ga.size g3.size, fun k hk hne => (g3.block k (Nat.lt_of_lt_of_le hk ga.size) hne).trans (ga.block k hk hne)⟩

/-- A slice that is written out. -/
theorem Own1.lit (w : World) {base H : Nat} {e : TypeId} {C : Array Value} (ys : List Value) (hC : C.toList = ys) (hb : base ≤ w.heap.size) (hH : w.heap.size = H) (hlen : ys.length ≤ 1000000000) :
    Own1 (w.alloc (.cells C e)) base e (.slice (some ⟨H, 0, none⟩) ys.length ys.length) ys := by
  subst hH hC
  rw [Array.length_toList] at hlen ⊢
  have := World.ownsRow_lit (base := base) (e := e) (size := 1) w C C.size hb (by unfold maxLen; omega) (by rw [Nat.mul_one])
  unfold Own1
  rw [Array.length_toList]
  exact this
/-- make([]T, n). -/
theorem wpList_make1 {ops : Array Oper} {rest : List Oper} {o : Oper} {a : Act} {Q : Exit → Act → World → Prop} {w : World} {base : Nat} {t e : TypeId} {z : Value} {bytes : Nat}
    (hinfo : (Tryz.prog.info? e).map (fun i => (i.zero, i.size, i.bytes)) = some (some z, 1, bytes)) (ht : Tryz.prog.underlying t = some (.slice e)) (hzc : z.cells = #[z]) (hby : bytes ≤ 64)
    (l c : Operand) (hgd : o.guard = none) (hop : o.op = Op.makeSlice t l c) (kl kc : IntKind) (n : Nat) (hl : a.eval l = .int kl (n : Int)) (hc : a.eval c = .int kc (n : Int)) (hn : n ≤ 1000000000) (hb : base ≤ w.heap.size)
    (h : ∀ w', Own1 w' base e (.slice (some ⟨w.heap.size, 0, none⟩) n n) (List.replicate n z) → Below base w w' → wpList Tryz.prog ops Q rest (a.put o.dst (.slice (some ⟨w.heap.size, 0, none⟩) n n)) w') :
    wpList Tryz.prog ops Q (o :: rest) a w := by
  obtain ⟨i0, hi, hz0, hz1, hz2⟩ := info_parts hinfo
  refine wpList_make_full w hgd l c t hop base e i0 z 1 ht hi hz0 hz1 kl kc n n n hl hc rfl rfl ?_ (by unfold maxLen; omega) hb ?_
  · rw [hz2]
    exact Nat.le_trans (Nat.mul_le_mul hby hn) (by decide)
  · intro w' g1 g2
    refine h w' ?_ (Below.grown (Below.refl _ _) g2 hb fun k hk => by cases hk)
    rw [hzc, Nat.mul_one, toList_madeCells_one] at g1
    unfold Own1
    rw [List.length_replicate]
    exact g1

theorem Own1.block {w : World} {base : Nat} {e : TypeId} {v : Value} {xs : List Value} (h : Own1 w base e v xs) {g : Nat} (hg : v.ownBlock = some g) : base ≤ g ∧ ∃ cur, w.heap[g]? = some (.cells cur e (0, 0)) := by
  rcases h.2 with ⟨rfl, _⟩ | ⟨g', cap, cur, rfl, hb, hh, _⟩
  · simp [Value.ownBlock] at hg
  · simp [Value.ownBlock] at hg
    subst hg
    exact ⟨hb, cur, hh⟩
/-- What lies in rows of another type is not touched. -/
theorem Own1.grown {w w' : World} {base base' : Nat} {e e' : TypeId} {v u : Value} {xs ys : List Value} (h : Own1 w base e v xs) (hu : Own1 w base' e' u ys) (hne : e ≠ e') (hg : w.grownBy w' u.ownBlock) : Own1 w' base e v xs := by
  refine World.ownsRow.kept h hg ?_
  cases hv : v.ownBlock with
  | none => exact .inl rfl
  | some g =>
    refine .inr fun hc => hne ?_
    obtain ⟨_, cur, h1⟩ := h.block hv
    obtain ⟨_, cur', h2⟩ := hu.block hc.symm
    rw [h1] at h2
    simp at h2
    exact h2.2
theorem heap_grown {w w' : World} {base' q : Nat} {T e' : TypeId} {u : Value} {ys : List Value} {C : Array Value} (h : w.heap[q]? = some (.cells C T (0, 0))) (hu : Own1 w base' e' u ys) (hne : T ≠ e') (hg : w.grownBy w' u.ownBlock) : w'.heap[q]? = some (.cells C T (0, 0)) := by
  have hq : q < w.heap.size := (Array.getElem?_eq_some_iff.1 h).1
  rw [hg.block q hq ?_]
  · exact h
  · intro hc
    obtain ⟨_, cur', h2⟩ := hu.block hc.symm
    rw [h] at h2
    simp at h2
    exact hne h2.2
theorem Own1.setOther {w : World} {base q i : Nat} {T e : TypeId} {v x : Value} {xs : List Value} {C : Array Value} (h : Own1 w base e v xs) (hq : w.heap[q]? = some (.cells C T (0, 0))) (hne : e ≠ T) : Own1 (w.setCell ⟨q, i, none⟩ x) base e v xs := by
  refine World.ownsRow.kept (row := some q) h ⟨rfl, rfl, rfl, by simp, fun k _ hk => heap_setCell_other w ⟨q, i, none⟩ k x (fun e => hk (by simp [e]))⟩ ?_
  cases hv : v.ownBlock with
  | none => exact .inl rfl
  | some g =>
    refine .inr fun hc => hne ?_
    obtain ⟨_, cur, h1⟩ := h.block hv
    simp only [Option.some.injEq] at hc
    subst hc
    rw [h1] at hq
    simp at hq
    exact hq.2
theorem Own1.cell {w : World} {base : Nat} {e : TypeId} {ao : Option Addr} {n cap : Nat} {xs : List Value} (h : Own1 w base e (.slice ao n cap) xs) {i : Nat} (hi : i < xs.length) :
    ∃ g, ao = some ⟨g, 0, none⟩ ∧ base ≤ g ∧ w.cell? ⟨g, i, none⟩ = some xs[i] ∧ w.frozen? ⟨g, i, none⟩ = false := by
  rcases h.2 with ⟨_, h0⟩ | ⟨g, cap', cur, hv, hb, hh, hrest⟩
  · omega
  · simp only [Value.slice.injEq] at hv
    obtain ⟨rfl, rfl, rfl⟩ := hv
    refine ⟨g, rfl, hb, ?_, ?_⟩
    · rw [World.ownsRow.cellAt h i (by omega)]
      exact List.getElem?_eq_getElem hi
    · exact World.ownsRow.frozenAt h i
theorem Own1.cellAt {w : World} {base g n cap : Nat} {e : TypeId} {xs : List Value} (h : Own1 w base e (.slice (some ⟨g, 0, none⟩) n cap) xs) {i : Nat} (hi : i < xs.length) : w.cell? ⟨g, i, none⟩ = some xs[i] ∧ w.frozen? ⟨g, i, none⟩ = false := by
  obtain ⟨g', hg, _, h1, h2⟩ := h.cell hi
  simp only [Option.some.injEq, Addr.mk.injEq] at hg
  obtain ⟨rfl, _⟩ := hg
  exact ⟨h1, h2⟩
theorem Own1.stored {w : World} {base g cap : Nat} {e : TypeId} {xs : List Value} (h : Own1 w base e (.slice (some ⟨g, 0, none⟩) xs.length cap) xs) (i : Nat) (u : Value) :
    Own1 (w.setCell ⟨g, i, none⟩ u) base e (.slice (some ⟨g, 0, none⟩) xs.length cap) (xs.set i u) := by
  have := (World.ownsRow.stored h i u).1
  unfold Own1
  rw [List.length_set]
  exact this

/-- copy(v, u): v is a slice of the calls' own, u lies in memory and is as long. -/
theorem wpList_copy1 {ops : Array Oper} {rest : List Oper} {o : Oper} {a : Act} {Q : Exit → Act → World → Prop} {w : World} {base : Nat} {v u : Value} {xs ys : List Value} {t e : TypeId}
    (ht : Tryz.prog.underlying t = some (.slice e)) (hsz : (Tryz.prog.info? e).map (·.size) = some 1)
    (d s : Operand) (hgd : o.guard = none) (ho : o.op = .call { callee := .builtin .copy, args := #[d, s], argTypes := #[t, t] })
    (hd : a.eval d = v) (hs : a.eval s = u) (hown : Own1 w base e v xs) (hsrc : LiesC w u ys) (hlen : ys.length = xs.length) (h1 : ∀ y ∈ ys, y.oneCell' = true)
    (h : ∀ w', Own1 w' base e v ys → Below base w w' → w.grownBy w' v.ownBlock → wpList Tryz.prog ops Q rest (a.put o.dst (goInt ys.length)) w') :
    wpList Tryz.prog ops Q (o :: rest) a w := by
  obtain ⟨ao, cap, rfl, _, hc⟩ := hsrc
  rcases hown.2 with ⟨rfl, h0⟩ | ⟨g, vcap, cur, rfl, hb, hg, hnc, hcm, hcs, htake⟩
  · have hy : ys = [] := List.eq_nil_of_length_eq_zero (by omega)
    subst hy
    have hx : xs = [] := List.eq_nil_of_length_eq_zero h0
    subst hx
    refine wpList_copy_nothing hgd d s t t ho e ht hsz none ao 0 0 0 cap hd hs (by simp) ?_
    exact h w hown (Below.refl _ _) ⟨rfl, rfl, rfl, Nat.le_refl _, fun _ _ _ => rfl⟩
  · by_cases h0 : ys.length = 0
    · have hy : ys = [] := List.eq_nil_of_length_eq_zero h0
      subst hy
      have hx : xs = [] := List.eq_nil_of_length_eq_zero (by simpa using hlen.symm)
      subst hx
      refine wpList_copy_nothing hgd d s t t ho e ht hsz (some ⟨g, 0, none⟩) ao 0 vcap 0 cap hd hs (by simp) ?_
      exact h w hown (Below.refl _ _) ⟨rfl, rfl, rfl, Nat.le_refl _, fun _ _ _ => rfl⟩
    · obtain ⟨b0, off0, rfl, _⟩ := hc 0 (by omega)
      simp only [Nat.mul_one] at hcs htake
      refine wpList_copy_own hgd d s t t ho e ht hsz g 0 xs.length vcap ⟨b0, off0, none⟩ ys.length cap hd hs cur e hg ys (by rw [hlen]; exact (Nat.min_self _).symm) ?_ (by omega) h1 ?_
      · intro j y hj
        obtain ⟨hjl, rfl⟩ := List.getElem?_eq_some_iff.1 hj
        obtain ⟨b, off, hx, hcell⟩ := hc j hjl
        simp only [Option.some.injEq, Addr.mk.injEq] at hx
        obtain ⟨rfl, rfl, _⟩ := hx
        rw [show (⟨b0, off0, none⟩ : Addr).add j = ⟨b0, off0 + j, none⟩ by unfold Addr.add; split <;> simp_all]
        exact hcell
      · have hgr : w.grownBy (w.setRow g (cur.toList.take 0 ++ (ys ++ cur.toList.drop (0 + ys.length))).toArray) (some g) := ⟨rfl, rfl, rfl, by simp [World.setRow], fun k _ hk => setRow_other w g k _ (fun e => hk (by simp [e]))⟩
        refine h _ ⟨by simp, .inr ⟨g, vcap, _, by rw [hlen], hb, setRow_heap w g _ _ e _ hg, by omega, hcm, ?_, ?_⟩⟩ (Below.grown (Below.refl _ _) hgr (Nat.le_trans hb (Nat.le_of_lt (Array.getElem?_eq_some_iff.1 hg).1)) fun k hk => by simp only [Option.some.injEq] at hk; omega) hgr
        · simp; omega
        · simp

end Go.Proofs.YtailfiofcicloaaGreatDoor

namespace Go.Proofs.YtailfiofcicloaaGreatDoor
open Go.RowKit Go.Sort

theorem beq_nat (n k : Nat) : ((n : Int) == (k : Int)) = (n == k) := by
  rw [Bool.eq_iff_iff, beq_iff_eq, beq_iff_eq]; omega
theorem le_nat (n k : Nat) : decide ((n : Int) ≤ (k : Int)) = decide (n ≤ k) := by
  rw [decide_eq_decide]; omega
end Go.Proofs.YtailfiofcicloaaGreatDoor
