/- The law RowsSets, walked. -/
import Derived.Test.YtafbgmpbfonljaaDoorRwAlive
import Derived.Test.YtafbgmpbfonljaaDoorRwUnion
namespace Go.Proofs.YtafbgmpbfonljaaDoor
open Go.RowKit Go.Sort

/-- append(v, u...) behind a guard that says yes. -/
theorem wpList_cat1g {ops : Array Oper} {rest : List Oper} {o : Oper} {a : Act} {Q : Exit → Act → World → Prop} {w : World} {base : Nat} {v u : Value} {xs ys : List Value} {t e : TypeId} {z : Value} {bytes : Nat}
    (hinfo : (Tryd.prog.info? e).map (fun i => (i.zero, i.size, i.bytes)) = some (some z, 1, bytes)) (ht : Tryd.prog.underlying t = some (.slice e)) (hzc : z.cells.size = 1) (hby : bytes ≤ 64)
    (s x : Operand) (hw : Region.wanted o (yielded ops a.tmps) = true) (ho : o.op = .call { callee := .builtin .append, args := #[s, x], argTypes := #[t, t] })
    (hs : a.eval s = v) (hx : a.eval x = u) (hown : Own1 w base e v xs) (hsrc : LiesC w u ys) (h1 : ∀ y ∈ ys, y.oneCell' = true) (hb : base ≤ w.heap.size) (hlen : xs.length + ys.length ≤ 1000000000)
    (h : ∀ v' w', Own1 w' base e v' (xs ++ ys) → Below base w w' → wpList Tryd.prog ops Q rest (a.put o.dst v') w') :
    wpList Tryd.prog ops Q (o :: rest) a w := by
  obtain ⟨i0, hi, hz0, hz1, hz2⟩ := info_parts hinfo
  obtain ⟨ao, cap, rfl, hn, hc⟩ := hsrc
  refine BigFrame.wpList_want hw fun K hK => ?_
  cases ao with
  | none =>
    have h0 : ys = [] := by
      cases ys with
      | nil => rfl
      | cons y r => obtain ⟨b, off, hx, _⟩ := hc 0 (by simp); cases hx
    subst h0
    have hrun := run_append_none (P := Tryd.prog) (w := w) base t o.type e i0 1 cap ht hi v xs.length xs hown
    unfold Oper.wp execOp
    simp only [List.length_nil] at hx
    simp only [ho, resolve, invoke, builtin, Sem.run_bind, Sem.run_pure, Result.andThen_ok, List.map_toArray, List.map_cons, List.map_nil, hs, hx, hrun]
    exact hK _ _ (h v w (by rw [List.append_nil]; exact hown) (Below.refl _ _))
  | some ad =>
    refine wp_append_own _ s x t ho base e i0 z 1 bytes ht hi hz0 hz1 hz2 hzc (by decide) v xs.length xs hs hown ad ys.length cap ys hx (by rw [Nat.mul_one]) ?_ h1 ?_ ?_ hb ?_
    · intro j u hj
      obtain ⟨hjl, rfl⟩ := List.getElem?_eq_some_iff.1 hj
      obtain ⟨b, off, hx, hcell⟩ := hc j hjl
      simp only [Option.some.injEq] at hx
      subst hx
      rw [show (⟨b, off, none⟩ : Addr).add j = ⟨b, off + j, none⟩ by unfold Addr.add; split <;> simp_all]
      exact hcell
    · unfold maxLen; omega
    · exact Nat.le_trans (Nat.mul_le_mul hlen hby) (by decide)
    · intro v' w' g1 g2 _
      refine hK _ _ (h v' w' ?_ (Below.grown (Below.refl _ _) g2 hb fun k hk => (World.ownsRow.lt hown k hk).1))
      unfold Own1
      rw [List.length_append]
      exact g1

theorem fewR_two (A B : List Row) : fewR [A, B] = (okL A && okL B) := by simp [fewR]
theorem Own1.empty (w : World) (e : TypeId) : Own1 (w.alloc (.cells #[] e)) w.heap.size e (.slice (some ⟨w.heap.size, 0, none⟩) 0 0) [] := Own1.lit w [] rfl (Nat.le_refl _) rfl (by simp)
theorem small_part {A B : List Row} {s : Bool} (h : Small A) : Small (partR A B s) := h.of_mem fun r hr => (mem_distR A r).1 (List.mem_filter.1 hr).1
theorem part_length (A B : List Row) (s : Bool) : (partR A B s).length ≤ A.length := Nat.le_trans (List.length_filter_le ..) (distR_length_le A)

set_option maxRecDepth 100000 in
set_option maxHeartbeats 8000000 in
theorem rowsSets_any (v u : Value) (A B : List Row) (w : World) (hA : LiesR w v A) (hB : LiesR w u B) (iA : ∀ r ∈ A, ∀ e ∈ r, inR e.1 ∧ inR e.2.1) (iB : ∀ r ∈ B, ∀ e ∈ r, inR e.1 ∧ inR e.2.1) :
    Calls Tryd.prog 3 #[v, u] w fun e w' => e = .returned (.bool true) ∧ Below w.heap.size w w' := by
  obtain ⟨ao, ac, hv, _, _⟩ := id hA
  obtain ⟨bo, bc, hu, _, _⟩ := id hB
  have hf := few_any _ _ [A, B] (LiesLL.two hA hB) (by simp)
  rw [fewR_two] at hf
  subst hv hu
  cases hz : (okL A && okL B)
  · rw [hz] at hf
    clear hA hB
    go_enter Tryd.func3, Tryd.ntmps3
    go_wp2_with fail
    refine hf.mono ?_
    rintro e w1 ⟨rfl, b1⟩
    go_wp2_with fail
    refine (alive_any _).mono ?_
    rintro e w2 ⟨rfl, b2⟩
    go_wp2_with fail
    go_ret
    exact ⟨rfl, btrans (bnew b1) b2⟩
  · rw [hz] at hf
    rw [Bool.and_eq_true] at hz
    obtain ⟨rA, lA⟩ := right_of_ok hz.1 iA
    obtain ⟨rB, lB⟩ := right_of_ok hz.2 iB
    have sA := rA.small
    have sB := rB.small
    have hdA := distR_length_le A
    have hdAB := distR_length_le (A ++ B)
    rw [List.length_append] at hdAB
    have sAB : Small (A ++ B) := fun r hr => by rcases List.mem_append.1 hr with h | h; exact sA r h; exact sB r h
    clear hz iA iB
    go_enter Tryd.func3, Tryd.ntmps3
    go_wp2_with fail
    refine hf.mono ?_
    rintro e w1 ⟨rfl, b1⟩
    have k1 := bnew b1
    clear hf b1
    go_wp2_with fail
    refine (distinct_any _ _ A (hA.keep k1) rA (by omega)).mono ?_
    rintro e w2 ⟨x2, rfl, l2, b2⟩
    have k2 := btrans k1 b2
    go_wp2_with fail
    refine (refDistinct_any _ _ A (hA.keep k2) (by omega) sA).mono ?_
    rintro e w3 ⟨x3, rfl, l3, b3⟩
    have k3 := btrans k2 b3
    go_wp2_with fail
    refine (sameRR_any _ _ _ _ _ (l2.keep b3) l3 (by omega) (by omega) sA.dist).mono ?_
    rintro e w4 ⟨rfl, b4⟩
    rw [decide_eq_true rfl]
    have k4 := btrans k3 b4
    clear l2 l3 b2 b3 b4 k1 k2 k3
    go_wp2_with fail
    refine (union_any _ _ _ A B (hA.keep k4) (hB.keep k4) rA rB (by omega) (by omega)).mono ?_
    rintro e w5 ⟨x5, rfl, l5, b5⟩
    have k5 := btrans k4 b5
    have ho := Own1.empty w5 40
    have hbo : Below w5.heap.size w5 (w5.alloc (.cells #[] 40)) := (Below.refl _ _).alloc (Nat.le_refl _) _
    obtain ⟨xa, la1, la2⟩ := hA.cells
    obtain ⟨xb, lb1, lb2⟩ := hB.cells
    have la1' := (la1.keep k5).keep hbo
    have oa := la2.one
    have ob := lb2.one
    have hxa := la2.1
    have hxb := lb2.1
    have HX : Aside _ := And.intro la2 (And.intro lb1 lb2)
    have hsz5 := hbo.size
    have hla : ([] : List Value).length + xa.length ≤ 1000000000 := by simp; omega
    have hlb : ([] ++ xa).length + xb.length ≤ 1000000000 := by simp; omega
    clear la1 la2 lb1 lb2 k4 b5 hxa hxb
    go_wp2_with (first
      | (at_builtin; refine wpList_cat1g info_R Tryd.underlying22 rfl (by decide) (.tmp 20) (.tmp 21) rfl rfl rfl rfl ho la1' oa hsz5 hla ?_; intro v6 w6 ho6 hb6; have lb1' := (HX.out.2.1.keep k5).keep ((hbo.trans hb6)); have hsz6 := Nat.le_trans hsz5 hb6.size)
      | (at_builtin; refine wpList_cat1g info_R Tryd.underlying22 rfl (by decide) (.tmp 22) (.tmp 23) rfl rfl rfl rfl ho6 lb1' ob hsz6 hlb ?_; intro v7 w7 ho7 hb7))
    have k7 : Below w5.heap.size w5 w7 := (hbo.trans hb6).trans hb7
    have l7 : LiesR w7 v7 (A ++ B) := by
      have := ((HX.out.1.keep k5).keep k7).append ((HX.out.2.2.keep k5).keep k7)
      exact ho7.lies.rows (by simpa using this)
    have k7' := btrans k5 k7
    clear ho ho6 ho7 hb6 hb7 hbo la1' lb1' oa ob HX hsz5 hsz6 hla hlb
    refine (refDistinct_any _ _ (A ++ B) l7 (by simp; omega) sAB).mono ?_
    rintro e w8 ⟨x8, rfl, l8, b8⟩
    have k8 := btrans k7' b8
    go_wp2_with fail
    refine (sameRR_any _ _ _ _ _ ((l5.keep k7).keep b8) l8 (by omega) (by omega) sAB.dist).mono ?_
    rintro e w9 ⟨rfl, b9⟩
    rw [decide_eq_true rfl]
    have k9 := btrans k8 b9
    clear l5 l7 l8 k5 k7 k7' k8 b8 b9
    go_wp2_with fail
    refine (except_any _ _ _ A B (hA.keep k9) (hB.keep k9) rA rB (by omega) (by omega)).mono ?_
    rintro e w10 ⟨x10, rfl, l10, b10⟩
    have k10 := btrans k9 b10
    go_wp2_with fail
    refine (part_any _ _ _ A B false (hA.keep k10) (hB.keep k10) (by omega) (by omega) sA sB).mono ?_
    rintro e w11 ⟨x11, rfl, l11, b11⟩
    have k11 := btrans k10 b11
    have hp := part_length A B false
    go_wp2_with fail
    refine (sameRR_any _ _ _ _ _ (l10.keep b11) l11 (by omega) (by omega) (small_part sA)).mono ?_
    rintro e w12 ⟨rfl, b12⟩
    rw [decide_eq_true rfl]
    have k12 := btrans k11 b12
    clear l10 l11 k9 k10 k11 b10 b11 b12 hp
    go_wp2_with fail
    refine (intersect_any _ _ _ A B (hA.keep k12) (hB.keep k12) rA rB (by omega) (by omega)).mono ?_
    rintro e w13 ⟨x13, rfl, l13, b13⟩
    have k13 := btrans k12 b13
    go_wp2_with fail
    refine (part_any _ _ _ A B true (hA.keep k13) (hB.keep k13) (by omega) (by omega) sA sB).mono ?_
    rintro e w14 ⟨x14, rfl, l14, b14⟩
    have k14 := btrans k13 b14
    have hp := part_length A B true
    go_wp2_with fail
    refine (sameRR_any _ _ _ _ _ (l13.keep b14) l14 (by omega) (by omega) (small_part sA)).mono ?_
    rintro e w15 ⟨rfl, b15⟩
    rw [decide_eq_true rfl]
    have k15 := btrans k14 b15
    clear l13 l14 k12 k13 k14 b13 b14 b15 hp
    go_wp2_with fail
    refine (alive_any _).mono ?_
    rintro e w16 ⟨rfl, b16⟩
    go_wp2_with fail
    go_ret
    exact ⟨rfl, btrans k15 b16⟩

end Go.Proofs.YtafbgmpbfonljaaDoor
