/- alive: the chapter's examples, run. -/
import Derived.Test.YtalfeggddfpgeaaDoorRwSort
import Derived.Test.YtalfeggddfpgeaaDoorRwSame
import Derived.Test.YtalfeggddfpgeaaDoorRwFew
namespace Go.Proofs.YtalfeggddfpgeaaDoor
open Go.RowKit Go.Sort

theorem rowErr_ok {r : Row} (h : ∀ e ∈ r, rightE e.1 e.2.1 e.2.2 = 0) : rowErr r = 0 := by
  induction r with
  | nil => rfl
  | cons e r ih =>
    rw [rowErr, if_pos (h e (List.mem_cons_self ..))]
    exact ih fun x hx => h x (List.mem_cons_of_mem _ hx)
theorem size_ok {t n : Int} {s : ByteArray} (h : rightE t n s = 0) : s.size ≤ 1100 := by
  have e0 : s.toList = [] → s.size = 0 := fun h => by
    rw [ByteArray.toList_eq] at h
    have : s.data.size = 0 := by rw [← Array.length_toList, h]; rfl
    exact this
  unfold rightE at h
  repeat' split at h
  all_goals first | omega | (rename_i hc; have := e0 hc.2; omega) | (rename_i hc; have := e0 hc; omega)
theorem right_of_ok {L : List Row} (h : okL L = true) (hin : ∀ r ∈ L, ∀ e ∈ r, inR e.1 ∧ inR e.2.1) : RightL L ∧ L.length ≤ 40 := by
  simp only [okL, Bool.and_eq_true, decide_eq_true_eq, List.all_eq_true] at h
  refine ⟨fun r hr => ?_, h.1⟩
  have h2 := h.2 r hr
  simp only [okR, Bool.and_eq_true, decide_eq_true_eq, List.all_eq_true] at h2
  have h3 : ∀ e ∈ r, rightE e.1 e.2.1 e.2.2 = 0 := fun e he => by
    have := h2.2 e he
    simpa [okE] using this
  refine ⟨⟨?_, fun e he => ⟨size_ok (h3 e he), hin r hr e he⟩⟩, h2.1⟩
  unfold encErr
  rw [rowErr_ok h3, if_pos rfl, if_neg (by omega)]
theorem RightL.small {L : List Row} (h : RightL L) : Small L := fun r hr => by have := (h r hr).2; omega

theorem LiesR.three {w : World} {x y z : Value} {a b c : Row} (hx : Lies w x a) (hy : Lies w y b) (hz : Lies w z c) : LiesR (w.alloc (.cells #[x, y, z] 30)) (.slice (some ⟨w.heap.size, 0, none⟩) 3 3) [a, b, c] := by
  have hk : Below w.heap.size w (w.alloc (.cells #[x, y, z] 30)) := (Below.refl _ _).alloc (Nat.le_refl _) _
  refine ⟨_, 3, rfl, ⟨nofun, Nat.le_refl _⟩, fun i hi => ⟨w.heap.size, 0, ?_⟩⟩
  match i, hi with
  | 0, _ => exact ⟨x, rfl, by simp [go_sem], hx.keep hk⟩
  | 1, _ => exact ⟨y, rfl, by simp [go_sem], hy.keep hk⟩
  | 2, _ => exact ⟨z, rfl, by simp [go_sem], hz.keep hk⟩
theorem LiesR.two {w : World} {x y : Value} {a b : Row} (hx : Lies w x a) (hy : Lies w y b) : LiesR (w.alloc (.cells #[x, y] 30)) (.slice (some ⟨w.heap.size, 0, none⟩) 2 2) [a, b] := by
  have hk : Below w.heap.size w (w.alloc (.cells #[x, y] 30)) := (Below.refl _ _).alloc (Nat.le_refl _) _
  refine ⟨_, 2, rfl, ⟨nofun, Nat.le_refl _⟩, fun i hi => ⟨w.heap.size, 0, ?_⟩⟩
  match i, hi with
  | 0, _ => exact ⟨x, rfl, by simp [go_sem], hx.keep hk⟩
  | 1, _ => exact ⟨y, rfl, by simp [go_sem], hy.keep hk⟩

/-- A row of one number, and the row of null. -/
abbrev r1 (n : Int) : Row := [(2, n, E0)]
abbrev r0 : Row := [(0, 0, E0)]
theorem ex_dist : distR [r1 1, r1 2, r1 1] = [r1 1, r1 2] := by decide +kernel
theorem ex_right : RightL [r1 1, r1 2, r1 1] := (right_of_ok (by decide +kernel) (by
  intro r hr e he
  simp only [List.mem_cons, List.not_mem_nil, or_false] at hr
  unfold inR
  rcases hr with rfl | rfl | rfl <;> (rw [List.mem_singleton.1 he]; dsimp only; omega))).1
theorem ex_right2 : RightL [r1 2, r1 1, r0] := (right_of_ok (by decide +kernel) (by
  intro r hr e he
  simp only [List.mem_cons, List.not_mem_nil, or_false] at hr
  unfold inR
  rcases hr with rfl | rfl | rfl <;> (rw [List.mem_singleton.1 he]; dsimp only; omega))).1
theorem ex_grp : (grpR [r1 2, r1 1, r0]).length = 3 := by
  unfold grpR
  rw [List.length_map]
  decide +kernel
theorem ex_sorted : SortedOn (cfK [r1 2, r1 1, r0] []) [2, 1, 0] 0 3 := by
  intro k l _ h2 h3
  have h01 : cfK [r1 2, r1 1, r0] [] 1 0 < 0 := by decide +kernel
  have h12 : cfK [r1 2, r1 1, r0] [] 2 1 < 0 := by decide +kernel
  have h02 : cfK [r1 2, r1 1, r0] [] 2 0 < 0 := by decide +kernel
  have : (k = 0 ∧ l = 1) ∨ (k = 0 ∧ l = 2) ∨ (k = 1 ∧ l = 2) := by omega
  rcases this with ⟨rfl, rfl⟩ | ⟨rfl, rfl⟩ | ⟨rfl, rfl⟩
  · exact .inl h12
  · exact .inl h02
  · exact .inl h01
theorem ex_sort {P : List Nat} (hp : P.Perm (List.range 3)) (hs : SortedOn (cfK [r1 2, r1 1, r0] []) P 0 3) : (P.map fun k => [r1 2, r1 1, r0].getD k []) = [r0, r1 1, r1 2] := by
  have hl : P.length = 3 := by rw [hp.length_eq]; rfl
  have : P = [2, 1, 0] := sorted_unique (pre_cfK _ _) (hp.trans (by decide)) (by rw [hl]; exact hs) ex_sorted
  subst this
  rfl

set_option maxHeartbeats 4000000 in
theorem alive_any (w : World) : Calls Tryd.prog 6 #[] w fun e w' => e = .returned (.bool true) ∧ Below w.heap.size w w' := by
  go_enter Tryd.func6, Tryd.ntmps6
  go_wp2_with fail
  refine (one_any _ _).mono ?_
  rintro e w1 ⟨g1, rfl, l1, b1⟩
  go_wp2_with fail
  refine (one_any _ _).mono ?_
  rintro e w2 ⟨g2, rfl, l2, b2⟩
  go_wp2_with fail
  have hA : Below w2.heap.size w2 (w2.alloc (.cells #[.int .i64 0, .int .i64 0, .string ⟨#[]⟩] 34)) := (Below.refl _ _).alloc (Nat.le_refl _) _
  have hL := LiesR.three ((l1.keep b2).keep hA) (l2.keep hA) (Lies.one w2 (0, 0, E0))
  have bW := (btrans (btrans b1 b2) hA).alloc (btrans (btrans b1 b2) hA).size (.cells #[.slice (some ⟨g1, 0, none⟩) 1 1, .slice (some ⟨g2, 0, none⟩) 1 1, .slice (some ⟨w2.heap.size, 0, none⟩) 1 1] 30)
  rw [show (w2.alloc (.cells #[.int .i64 (0, 0, E0).1, .int .i64 (0, 0, E0).2.1, .string (0, 0, E0).2.2] 34)).heap.size = w2.heap.size + 1 by simp] at hL
  replace hL : LiesR ((w2.alloc (.cells #[.int .i64 0, .int .i64 0, .string ⟨#[]⟩] 34)).alloc (.cells #[.slice (some ⟨g1, 0, none⟩) 1 1, .slice (some ⟨g2, 0, none⟩) 1 1, .slice (some ⟨w2.heap.size, 0, none⟩) 1 1] 30)) (.slice (some ⟨w2.heap.size + 1, 0, none⟩) 3 3) [r1 2, r1 1, r0] := hL
  generalize (w2.alloc (.cells #[.int .i64 0, .int .i64 0, .string ⟨#[]⟩] 34)).alloc (.cells #[.slice (some ⟨g1, 0, none⟩) 1 1, .slice (some ⟨g2, 0, none⟩) 1 1, .slice (some ⟨w2.heap.size, 0, none⟩) 1 1] 30) = W at hL bW ⊢
  generalize w2.heap.size + 1 = gl at hL ⊢
  clear l1 l2 hA b1 b2
  refine (one_any _ _).mono ?_
  rintro e x1 ⟨h1, rfl, l1, b1⟩
  go_wp2_with fail
  refine (one_any _ _).mono ?_
  rintro e x2 ⟨h2, rfl, l2, b2⟩
  go_wp2_with fail
  refine (one_any _ _).mono ?_
  rintro e x3 ⟨h3, rfl, l3, b3⟩
  have hM := LiesR.three ((l1.keep b2).keep b3) (l2.keep b3) l3
  have k3 := btrans (btrans b1 b2) b3
  clear l1 l2 l3 b1 b2 b3
  go_wp2_with fail
  refine (distinct_any _ _ _ hM ex_right (by simp)).mono ?_
  rintro e x4 ⟨v4, rfl, l4, b4⟩
  rw [ex_dist] at l4
  have k4 := btrans k3 (bnew b4)
  clear hM k3 b4
  go_wp2_with fail
  refine (one_any _ _).mono ?_
  rintro e x5 ⟨h5, rfl, l5, b5⟩
  go_wp2_with fail
  refine (one_any _ _).mono ?_
  rintro e x6 ⟨h6, rfl, l6, b6⟩
  have hM := LiesR.two (l5.keep b6) l6
  have l4' := ((l4.keep b5).keep b6).keep ((Below.refl x6.heap.size x6).alloc (Nat.le_refl _) (.cells #[.slice (some ⟨h5, 0, none⟩) 1 1, .slice (some ⟨h6, 0, none⟩) 1 1] 30))
  have k6 := btrans (btrans k4 b5) b6
  clear l4 l5 l6 b5 b6 k4
  go_wp2_with fail
  refine (sameRR_any _ _ _ _ _ l4' hM (by simp) (by simp) (by intro r hr; simp at hr; rcases hr with rfl | rfl <;> simp)).mono ?_
  rintro e x7 ⟨rfl, b7⟩
  have k7 := btrans k6 (bnew b7)
  rw [decide_eq_true rfl]
  clear hM l4' k6 b7
  have hL7 := hL.keep k7
  go_wp2_with fail
  refine (sort_any _ _ _ _ _ _ [] hL7 hL7 ⟨none, 0, rfl, ⟨fun _ => rfl, Nat.le_refl _⟩, fun i h => absurd h (by simp)⟩ (by simp) ex_right2.small ex_right2.small (sortOK_small 3 (by omega))).mono ?_
  rintro e x8 ⟨v8, P, rfl, hp, hs, l8, b8⟩
  rw [ex_sort hp hs] at l8
  have k8 := btrans k7 b8
  clear hp hs hL7 k7 b8
  go_wp2_with fail
  have l0 := Lies.one x8 (0, 0, E0)
  have k0 := k8.alloc k8.size (.cells #[.int .i64 0, .int .i64 0, .string ⟨#[]⟩] 34)
  have l8' := l8.keep ((Below.refl x8.heap.size x8).alloc (Nat.le_refl _) (.cells #[.int .i64 0, .int .i64 0, .string ⟨#[]⟩] 34))
  replace l0 : Lies (x8.alloc (.cells #[.int .i64 0, .int .i64 0, .string ⟨#[]⟩] 34)) (.slice (some ⟨x8.heap.size, 0, none⟩) 1 1) r0 := l0
  generalize x8.alloc (.cells #[.int .i64 0, .int .i64 0, .string ⟨#[]⟩] 34) = y8 at l0 k0 l8' ⊢
  generalize x8.heap.size = g8 at l0 ⊢
  clear l8 k8
  refine (one_any _ _).mono ?_
  rintro e x9 ⟨h9, rfl, l9, b9⟩
  go_wp2_with fail
  refine (one_any _ _).mono ?_
  rintro e x10 ⟨h10, rfl, l10, b10⟩
  have hM := LiesR.three ((l0.keep b9).keep b10) (l9.keep b10) l10
  have l8'' := ((l8'.keep b9).keep b10).keep ((Below.refl x10.heap.size x10).alloc (Nat.le_refl _) (.cells #[.slice (some ⟨g8, 0, none⟩) 1 1, .slice (some ⟨h9, 0, none⟩) 1 1, .slice (some ⟨h10, 0, none⟩) 1 1] 30))
  have k10 := btrans (btrans k0 b9) b10
  clear l0 l8' l9 l10 b9 b10 k0
  go_wp2_with fail
  refine (sameRR_any _ _ _ _ _ l8'' hM (by simp) (by simp) (by intro r hr; simp at hr; rcases hr with rfl | rfl | rfl <;> simp)).mono ?_
  rintro e x11 ⟨rfl, b11⟩
  have k11 := btrans k10 (bnew b11)
  rw [decide_eq_true rfl]
  clear hM l8'' k10 b11
  have hL11 := hL.keep k11
  go_wp2_with fail
  refine (groups_any _ _ _ hL11 ex_right2 (by simp)).mono ?_
  rintro e x12 ⟨v12, rfl, l12, b12⟩
  obtain ⟨ao, cap, rfl, _⟩ := l12
  rw [ex_grp]
  go_wp2_with fail
  go_ret
  exact ⟨rfl, btrans bW (btrans k11 b12)⟩

end Go.Proofs.YtalfeggddfpgeaaDoor
