/- The law RowsJoins, walked. -/
import Derived.Test.YtafbgmpbfonljaaDoorRwMatch3
import Derived.Test.YtafbgmpbfonljaaDoorRwAlive
import Derived.Test.YtafbgmpbfonljaaDoorRwUnion
import Derived.ChangeKeysEq
namespace Go.Proofs.YtafbgmpbfonljaaDoor
open Go.RowKit Go.Sort

theorem run_pne (a b : Int) (w : World) : (binOp .neq 38 (.agg #[.int .i64 a, .int .i64 b]) (.agg #[.int .i64 a, .int .i64 b])).run Tryd.prog w = .ok (.bool false) w := by
  have h : (Op.equalIn (9999 + 1) 38 (.agg #[.int .i64 a, .int .i64 b]) (.agg #[.int .i64 a, .int .i64 b])).run Tryd.prog w = .ok true w := by
    obtain ⟨i0, hi, _⟩ := info_parts info_int
    have hc : Tryd.prog.cellsOf 3 = 1 := by kernel_rfl
    rw [run_equalIn_array w 9999 _ _ Tryd.underlying38 hi, hc]
    simp [Op.eqItems, List.range, List.range.loop, go_sem]
  rw [run_neq_struct, h]
  rfl
theorem fewR_two' (A B : List Row) : fewR [A, B] = (okL A && okL B) := by simp [fewR]

set_option maxRecDepth 100000 in
set_option maxHeartbeats 8000000 in
theorem rowsJoins_any (v u : Value) (A B : List Row) (i j : Int) (w : World) (hA : LiesR w v A) (hB : LiesR w u B) (iA : ∀ r ∈ A, ∀ e ∈ r, inR e.1 ∧ inR e.2.1) (iB : ∀ r ∈ B, ∀ e ∈ r, inR e.1 ∧ inR e.2.1) (oA : RoomyR w v A.length) (oB : RoomyR w u B.length) (hi : inR i) (hj : inR j) :
    Calls Tryd.prog 5 #[v, u, .int .i64 i, .int .i64 j] w fun e w' => e = .returned (.bool true) ∧ Below w.heap.size w w' := by
  obtain ⟨ao, ac, hv, _, hAc⟩ := id hA
  obtain ⟨bo, bc, hu, _, hBc⟩ := id hB
  have hf := few_any _ _ [A, B] (LiesLL.two hA hB) (by simp)
  rw [fewR_two'] at hf
  subst hv hu
  cases hz : (okL A && okL B)
  · rw [hz] at hf
    clear hA hB hAc hBc oA oB
    go_enter Tryd.func5, Tryd.ntmps5
    go_wp2_with fail
    refine hf.mono ?_
    rintro e w1 ⟨rfl, b1⟩
    go_wp2_with fail
    refine (alive_any _).mono ?_
    rintro e w2 ⟨rfl, b2⟩
    go_wp2_with fail
    go_ret
    exact ⟨rfl, btrans (bnew b1) b2⟩
  · rw [hz] at hf
    rw [Bool.and_eq_true] at hz
    obtain ⟨rA, lA⟩ := right_of_ok hz.1 iA
    obtain ⟨rB, lB⟩ := right_of_ok hz.2 iB
    have sA := rA.small
    have sB := rB.small
    have keepR : ∀ (v : Value) (L : List Row) (hl : LiesR w v L) (w' : World), Below w.heap.size w w' → RoomyR w v L.length → RoomyR w' v L.length := fun v L hl w' hw ho k hk b off n c r hv hc => by
      obtain ⟨lo, lc, rfl, _, hcc⟩ := hl
      obtain ⟨b', off', x, e, h1, _⟩ := hcc k hk
      simp only [Value.slice.injEq] at hv
      rw [hv.1] at e
      simp only [Option.some.injEq, Addr.mk.injEq] at e
      obtain ⟨rfl, rfl, _⟩ := e
      have := cell_keep h1 hw
      rw [this] at hc
      simp only [Option.some.injEq] at hc
      subst hc
      exact ho k hk b off n c x (by rw [hv.1, hv.2.1, hv.2.2]) h1
    have KA : Aside (∀ w', Below w.heap.size w w' → LiesR w' (.slice ao A.length ac) A ∧ RoomyR w' (.slice ao A.length ac) A.length) := fun w' hw => ⟨hA.keep hw, keepR _ A hA w' hw oA⟩
    have KB : Aside (∀ w', Below w.heap.size w w' → LiesR w' (.slice bo B.length bc) B ∧ RoomyR w' (.slice bo B.length bc) B.length) := fun w' hw => ⟨hB.keep hw, keepR _ B hB w' hw oB⟩
    have hgl : (grpR A).length ≤ 40 := by unfold grpR; rw [List.length_map]; exact Nat.le_trans (distR_length_le A) lA
    have HGM : Aside (∀ g ∈ grpR A, g.length ≤ 40) := fun g hg => by
      obtain ⟨r, _, rfl⟩ := List.mem_map.1 hg
      exact Nat.le_trans (plc_len A r A.length) lA
    have hml := mtR_length A B i j A.length
    have hml2 : A.length * B.length ≤ 40 * 40 := Nat.mul_le_mul lA lB
    clear hz iA iB keepR hA hB oA oB hAc hBc
    go_enter Tryd.func5, Tryd.ntmps5
    go_wp2_with fail
    refine hf.mono ?_
    rintro e w1 ⟨rfl, b1⟩
    have k1 := bnew b1
    clear hf b1
    go_wp2_with fail
    refine (groups_any _ _ A (KA.out _ k1).1 rA (by omega)).mono ?_
    rintro e w2 ⟨x2, rfl, l2, b2⟩
    have k2 := btrans k1 b2
    go_wp2_with fail
    refine (refGroups_any _ _ A (KA.out _ k2).1 (by omega) sA).mono ?_
    rintro e w3 ⟨x3, rfl, l3, b3⟩
    have k3 := btrans k2 b3
    have l2' := l2.keep b3
    clear l2 b2 b3 k1 k2
    generalize grpR A = G at l2' l3 hgl HGM
    obtain ⟨g1o, g1c, rfl, hg1⟩ := l2'
    obtain ⟨g2o, g2c, rfl, hg2⟩ := l3
    have HG1 : Aside _ := hg1
    have HG2 : Aside _ := hg2
    have hne : ((G.length : Int) != (G.length : Int)) = false := by simp
    clear hg1 hg2
    go_wp2_with fail
    go_loopw [32] (fun n wr => ∃ k : Nat, k ≤ G.length ∧ n = .int .i64 k ∧ Below w3.heap.size w3 wr) (fun n _ => G.length - (intOf n).toNat)
    case atStart => exact ⟨0, Nat.zero_le _, rfl, Below.refl _ _⟩
    case round =>
      obtain ⟨k, hk, rfl, hbel⟩ := hrel
      by_cases hlt : k < G.length
      · have hkt : decide ((k : Int) < (G.length : Int)) = true := by simp; omega
        obtain ⟨p, pof, x, rfl, c1, c2⟩ := HG1.out k hlt
        obtain ⟨q, qof, y, rfl, d1, d2⟩ := HG2.out k hlt
        have hgk := HGM.out _ (List.getElem_mem hlt)
        generalize G[k] = g at c2 d2 hgk
        have c1' := cell_keep c1 hbel
        have d1' := cell_keep d1 hbel
        have c2' := c2.keep hbel
        have d2' := d2.keep hbel
        have u1 : ∀ d os, (grow (redrawn wr d) os).cell? ⟨p, pof + k, none⟩ = some x := fun d os => cell_regrown c1' d os
        have u2 : ∀ d os, (grow (redrawn wr d) os).cell? ⟨q, qof + k, none⟩ = some y := fun d os => cell_regrown d1' d os
        have i0 : (0 : Int) ≤ (k : Int) := by omega
        have i1 : (k : Int) < (G.length : Int) := by omega
        clear c1 d1 c2 d2
        go_wp2_with fail
        refine wp_region_quiet_below (by kernel_rfl) (by kernel_rfl) ?_
        repeat (first | go_big_quiet_step (exact Calls.regrown_of (intsSame_any _ _ _ g (c2'.keep (below_regrown ..)) (d2'.keep (below_regrown ..)) (by omega))) | quiet_step (exact Calls.regrown_of (intsSame_any _ _ _ g (c2'.keep (below_regrown ..)) (d2'.keep (below_regrown ..)) (by omega))))
        refine wpQuiet_nil ?_
        rintro _ ⟨⟨dq, osq⟩, rfl⟩
        have hb := below_regrown wr dq osq
        generalize grow (redrawn wr dq) osq = w4 at hb ⊢
        clear u1 u2 c1' d1' c2' d2'
        go_wp2_with fail
        go_roundw
        case rel => exact ⟨k + 1, by omega, by go_num, btrans hbel hb⟩
        case measure => simp [intOf]; omega
      · have hkt : decide ((k : Int) < (G.length : Int)) = false := by simp; omega
        have k4 := btrans k3 hbel
        clear k3 HG1 HG2 HGM
        go_wp2_with fail
        refine (match_any _ _ _ A B i j (KA.out _ k4).1 (KB.out _ k4).1 rA rB lA lB (KA.out _ k4).2 (KB.out _ k4).2 hi hj).mono ?_
        rintro e w5 ⟨x5, rfl, l5, b5⟩
        have k5 := btrans k4 b5
        go_wp2_with fail
        refine (refMatch_any _ _ _ A B i j (KA.out _ k5).1 (KB.out _ k5).1 rA lA lB sB hi hj).mono ?_
        rintro e w6 ⟨x6, rfl, l6, b6⟩
        have k6 := btrans k5 b6
        have l5' := l5.keep b6
        clear l5 b5 b6 k4 k5
        generalize mtR A B i j A.length = M at l5' l6 hml
        obtain ⟨m1o, m1c, rfl, hm1⟩ := l5'
        obtain ⟨m2o, m2c, rfl, hm2⟩ := l6
        have HM1 : Aside _ := hm1
        have HM2 : Aside _ := hm2
        have hne2 : ((M.length : Int) != (M.length : Int)) = false := by simp
        clear hm1 hm2
        go_wp2_with fail
        go_loopw [63] (fun n wr => ∃ k : Nat, k ≤ M.length ∧ n = .int .i64 k ∧ Below w6.heap.size w6 wr) (fun n _ => M.length - (intOf n).toNat)
        case atStart => exact ⟨0, Nat.zero_le _, rfl, Below.refl _ _⟩
        case round =>
          clear hbel
          obtain ⟨t, ht, rfl, hbel⟩ := hrel
          by_cases hlt : t < M.length
          · have hkt2 : decide ((t : Int) < (M.length : Int)) = true := by simp; omega
            obtain ⟨p, pof, rfl, c1, c2⟩ := HM1.out t hlt
            obtain ⟨q, qof, rfl, d1, d2⟩ := HM2.out t hlt
            generalize M[t] = pr at c1 c2 d1 d2
            obtain ⟨x, y⟩ := pr
            simp only at c1 c2 d1 d2
            have u1 : ∀ d os, (grow (redrawn wr d) os).cell? ⟨p, pof + t * 2, none⟩ = some (.int .i64 x) := fun d os => cell_regrown (cell_keep c1 hbel) d os
            have u2 : ∀ d os, (grow (redrawn wr d) os).cell? ⟨p, pof + t * 2 + 1, none⟩ = some (.int .i64 y) := fun d os => cell_regrown (cell_keep c2 hbel) d os
            have u3 : ∀ d os, (grow (redrawn wr d) os).cell? ⟨q, qof + t * 2, none⟩ = some (.int .i64 x) := fun d os => cell_regrown (cell_keep d1 hbel) d os
            have u4 : ∀ d os, (grow (redrawn wr d) os).cell? ⟨q, qof + t * 2 + 1, none⟩ = some (.int .i64 y) := fun d os => cell_regrown (cell_keep d2 hbel) d os
            have i0 : (0 : Int) ≤ (t : Int) := by omega
            have i1 : (t : Int) < (M.length : Int) := by omega
            have hpe := run_pne
            go_wp2_with fail
            refine wp_region_quiet_below (by kernel_rfl) (by kernel_rfl) ?_
            repeat (first | go_big_quiet_step (fail) | quiet_step (fail))
            refine wpQuiet_nil ?_
            rintro _ ⟨⟨dq, osq⟩, rfl⟩
            have hb := below_regrown wr dq osq
            generalize grow (redrawn wr dq) osq = w7 at hb ⊢
            clear u1 u2 u3 u4 hpe c1 c2 d1 d2
            go_wp2_with fail
            go_roundw
            case rel => exact ⟨t + 1, by omega, by go_num, btrans hbel hb⟩
            case measure => simp [intOf]; omega
          · have hkt2 : decide ((t : Int) < (M.length : Int)) = false := by simp; omega
            go_wp2_with fail
            refine (alive_any _).mono ?_
            rintro e w8 ⟨rfl, b8⟩
            go_wp2_with fail
            go_ret
            exact ⟨rfl, btrans (btrans k6 hbel) b8⟩

end Go.Proofs.YtafbgmpbfonljaaDoor
