/- The walk of ReportTells. -/
import Derived.Test.YtcnbbmgclphfdaaDoorRpOuts2
import Derived.Test.YtcnbbmgclphfdaaDoorRpFew
import Derived.Test.YtcnbbmgclphfdaaDoorRpAlive
namespace Go.Proofs.YtcnbbmgclphfdaaDoor
open Go.RowKit Go.Sort

theorem right_size {t n : Int} {z : ByteArray} (h : RightE (t, n, z)) : z.size ≤ 1100 := by
  unfold RightE rightE at h
  simp only at h
  have emp : z.toList = [] → z.size ≤ 1100 := fun hz => by rw [empty_B hz]; decide
  split at h
  · split at h
    · rename_i hc; exact emp hc.2
    · exact absurd h (by decide)
  split at h
  · split at h
    · rename_i hc; exact emp hc.2
    · exact absurd h (by decide)
  split at h
  · split at h
    · rename_i hc; exact emp hc
    · exact absurd h (by decide)
  split at h
  · split at h
    · split at h
      · exact absurd h (by decide)
      · omega
    · exact absurd h (by decide)
  · exact absurd h (by decide)
theorem good_of_few {L : List (List Ent)} (h : okL L = true) (hin : ∀ r ∈ L, ∀ e ∈ r, inR e.1 ∧ inR e.2.1) : GoodL L := by
  simp only [okL, okR, okE, Bool.and_eq_true, decide_eq_true_eq, List.all_eq_true, beq_iff_eq] at h
  refine ⟨h.1, fun r hr => ⟨(h.2 r hr).1, fun e he => ⟨?_, hin r hr e he⟩, fun e he => (h.2 r hr).2 e he⟩⟩
  obtain ⟨t, n, z⟩ := e
  exact right_size ((h.2 r hr).2 _ he)

set_option maxHeartbeats 1200000 in
set_option maxRecDepth 100000 in
theorem tellsW (w : World) (hG : Glob w) (v cs os : Value) (L : List (List Ent)) (C : List (ByteArray × Int)) (O : List (Int × Ent)) (hl : LiesR w v L) (hC : LiesC2 w cs C) (hO : LiesO w os O)
    (hin : ∀ r ∈ L, ∀ e ∈ r, inR e.1 ∧ inR e.2.1) (hoin : ∀ o ∈ O, inR o.2.2.1) (gC : GoodC C) :
    Calls Tryd.prog 3 #[v, cs, os] w fun e w' => e = .returned (.bool true) ∧ Below w.heap.size w w' := by
  have hal : Hid (∀ w1, Below w.heap.size w w1 → Calls Tryd.prog 7 #[] w1 fun e w' => e = .returned (.bool true) ∧ Below w1.heap.size w1 w') := fun w1 b1 => alive23_any w1 (hG.keep b1)
  obtain ⟨W, hW⟩ : ∃ W, W = w.alloc (.cells #[v] 22) := ⟨_, rfl⟩
  have bW : Below w.heap.size w W := by rw [hW]; exact (Below.refl _ _).alloc (Nat.le_refl _) _
  have kf : Calls Tryd.prog 6 #[.slice (some ⟨w.heap.size, 0, none⟩) 1 1] W fun e w' => e = .returned (.bool (okL L)) ∧ Below W.heap.size W w' := by
    have := few11_any W (.slice (some ⟨w.heap.size, 0, none⟩) 1 1) [L] ⟨_, 1, rfl, fun i hi => by
      have h0 : i = 0 := by simp at hi; omega
      subst h0
      exact ⟨w.heap.size, 0, v, rfl, by rw [hW]; simp [go_sem], hl.keep bW⟩⟩ (by simp)
    rwa [show fewR [L] = okL L by simp [fewR]] at this
  have HL : Hid (LiesR w v L) := hl
  have HC : Hid (LiesC2 w cs C) := hC
  have HO : Hid (LiesO w os O) := hO
  obtain ⟨la, lcap, rfl, hln, hlc⟩ := hl
  obtain ⟨ca, ccap, rfl, hcc⟩ := hC
  obtain ⟨oa, ocap, rfl, hoc⟩ := hO
  clear hln hcc
  cases hfew : okL L with
  | false =>
    rw [hfew] at kf
    go_enter Tryd.func3, Tryd.ntmps3
    go_wp2_with fail
    rw [← hW]
    refine kf.mono ?_
    rintro e w1 ⟨rfl, b1⟩
    replace b1 := btrans bW b1
    go_wp2_with fail
    refine (hal.out w1 b1).mono ?_
    rintro e w2 ⟨rfl, b2⟩
    go_wp2_with fail
    go_ret
    exact ⟨rfl, btrans b1 b2⟩
  | true =>
    rw [hfew] at kf
    have hgood := good_of_few hfew hin
    by_cases h30 : 30 < C.length
    · go_enter Tryd.func3, Tryd.ntmps3
      go_wp2_with fail
      rw [← hW]
      refine kf.mono ?_
      rintro e w1 ⟨rfl, b1⟩
      replace b1 := btrans bW b1
      go_wp2_with fail
      refine (hal.out w1 b1).mono ?_
      rintro e w2 ⟨rfl, b2⟩
      go_wp2_with fail
      go_ret
      exact ⟨rfl, btrans b1 b2⟩
    by_cases h60 : 60 < O.length
    · go_enter Tryd.func3, Tryd.ntmps3
      go_wp2_with fail
      rw [← hW]
      refine kf.mono ?_
      rintro e w1 ⟨rfl, b1⟩
      replace b1 := btrans bW b1
      go_wp2_with fail
      refine (hal.out w1 b1).mono ?_
      rintro e w2 ⟨rfl, b2⟩
      go_wp2_with fail
      go_ret
      exact ⟨rfl, btrans b1 b2⟩
    have hgl : L.length ≤ 40 := hgood.1
    have HG : Hid (GoodL L) := hgood
    have h30b : decide (30 < (C.length : Int)) = false := by simp; omega
    have h60b : decide (60 < (O.length : Int)) = false := by simp; omega
    clear hfew hin hgood
    go_enter Tryd.func3, Tryd.ntmps3
    go_wp2_with fail
    rw [← hW]
    clear hW
    refine kf.mono ?_
    rintro e w1 ⟨rfl, b1⟩
    replace b1 := btrans bW b1
    clear kf bW
    go_wp2_with fail
    go_loopw [30] (fun i wr => ∃ j : Nat, j ≤ O.length ∧ i = .int .i64 j ∧ (∀ k (hk : k < O.length), k < j → RightE O[k].2) ∧ Below w.heap.size w wr) (fun i _ => O.length - (intOf i).toNat)
    case atStart => exact ⟨0, Nat.zero_le _, rfl, fun k _ hk => absurd hk (Nat.not_lt_zero _), b1⟩
    case round =>
      clear b1
      obtain ⟨j, hj, rfl, hright, hbel⟩ := hrel
      have HR : Hid (∀ k (hk : k < O.length), k < j → RightE O[k].2) := hright
      clear hright
      by_cases h : j < O.length
      · obtain ⟨b, off, rfl, h1, h2, h3, h4⟩ := hoc j h
        replace h1 := cell_keep h1 hbel
        replace h2 := cell_keep h2 hbel
        replace h3 := cell_keep h3 hbel
        replace h4 := cell_keep h4 hbel
        have HE : Hid (∀ (_ : RightE O[j].2), ∀ k (hk : k < O.length), k < j + 1 → RightE O[k].2) := by
          intro hx k hk hkj
          by_cases hke : k = j
          · subst hke; exact hx
          · exact HR.out k hk (by omega)
        generalize O[j] = E at *
        obtain ⟨c, t, n, s⟩ := E
        dsimp only at h1 h2 h3 h4
        have kr := refRight_any t n s (wr.alloc (.cells #[.int .i64 c, .int .i64 t, .int .i64 n, .string s] 30))
        clear hoc hlc
        by_cases hre : rightE t n s = 0
        · rw [hre] at kr
          go_wp2_with fail
          refine kr.mono ?_
          rintro e w2 ⟨rfl, b2⟩
          replace b2 := btrans hbel (bnew b2)
          go_wp2_with fail
          go_roundw
          case rel => exact ⟨j + 1, by omega, by go_num, HE.out hre, b2⟩
          case measure => simp [intOf]; omega
        · have hreb : (rightE t n s != 0) = true := by simpa using hre
          generalize rightE t n s = rr at *
          go_wp2_with fail
          refine kr.mono ?_
          rintro e w2 ⟨rfl, b2⟩
          replace b2 := btrans hbel (bnew b2)
          go_wp2_with fail
          refine (hal.out w2 b2).mono ?_
          rintro e w3 ⟨rfl, b3⟩
          go_wp2_with fail
          go_ret
          exact ⟨rfl, btrans b2 b3⟩
      · have hjl : j = O.length := by omega
        subst hjl
        have HGO : Hid (GoodO O) := by
          refine ⟨by omega, fun o ho => ?_⟩
          have hi := hoin o ho
          obtain ⟨k, hk, rfl⟩ := List.getElem_of_mem ho
          have hR := HR.out k hk hk
          generalize O[k] = E at *
          obtain ⟨c, t, n, s⟩ := E
          exact ⟨right_size hR, hi, hR⟩
        clear HR hoc
        go_wp2_with fail
        obtain ⟨wx, rfl⟩ : ∃ x, x = wr := ⟨_, rfl⟩
        go_loopw [42] (fun i ws => ∃ m : Nat, m ≤ L.length ∧ i = .int .i64 m ∧ Below w.heap.size w ws) (fun i _ => L.length - (intOf i).toNat)
        case atStart => exact ⟨0, Nat.zero_le _, rfl, hbel⟩
        case round =>
          clear hbel
          obtain ⟨m, hm, rfl, hbel⟩ := hrel
          by_cases hml : m < L.length
          · obtain ⟨b, off, r, rfl, h1, h2⟩ := hlc m hml
            have hge := HG.out.2 L[m] (List.getElem_mem hml)
            obtain ⟨g40, gf, gr⟩ := hge
            have g1 := cell_keep h1 hbel
            have HLr : Hid (Lies w r L[m]) := h2
            generalize L[m] = l at *
            have k1 := row_any _ (hG.keep hbel) r l (h2.keep hbel) gf (by omega)
            have k2 : Hid (∀ w0, Below w.heap.size w w0 → Calls Tryd.prog 10 #[r] w0 fun e w' => e = .returned (.string (rowB l)) ∧ Below w0.heap.size w0 w') := fun w0 b0 => refRow_any w0 r l (h2.keep b0) gr gf (by omega)
            obtain ⟨ra, rcap, rfl, hrc⟩ := h2
            clear hlc h1
            go_wp2_with fail
            refine k1.mono ?_
            rintro e w2 ⟨rfl, b2⟩
            replace hbel := btrans hbel b2
            clear k1 b2 g1
            go_wp2_with fail
            refine (k2.out w2 hbel).mono ?_
            rintro e w3 ⟨rfl, b3⟩
            replace hbel := btrans hbel b3
            clear k2 b3
            go_wp2_with fail
            go_loopw [53] (fun i wt => ∃ q : Nat, q ≤ l.length ∧ i = .int .i64 q ∧ Below w.heap.size w wt) (fun i _ => l.length - (intOf i).toNat)
            case atStart => exact ⟨0, Nat.zero_le _, rfl, hbel⟩
            case round =>
              clear hbel
              obtain ⟨q, hq, rfl, hbel⟩ := hrel
              by_cases hql : q < l.length
              · obtain ⟨b5, off5, rfl, c1, c2, c3⟩ := hrc q hql
                replace c1 := cell_keep c1 hbel
                replace c2 := cell_keep c2 hbel
                replace c3 := cell_keep c3 hbel
                have hfe := gf l[q] (List.getElem_mem hql)
                have hre := gr l[q] (List.getElem_mem hql)
                clear hrc
                generalize l[q] = E at *
                obtain ⟨t, n, z⟩ := E
                dsimp only at c1 c2 c3 hfe
                obtain ⟨Wn, hWn⟩ : ∃ Wn, Wn = wr.alloc (.cells #[.int .i64 t, .int .i64 n, .string z] 28) := ⟨_, rfl⟩
                have bn : Below wr.heap.size wr Wn := by rw [hWn]; exact (Below.refl _ _).alloc (Nat.le_refl _) _
                have hGn := (hG.keep hbel).keep bn
                have d0 : ∀ d os, (grow (redrawn Wn d) os).cell? ⟨wr.heap.size, 0, none⟩ = some (.int .i64 t) := fun d os => cell_regrown (by rw [hWn]; simp [go_sem]) d os
                have d1 : ∀ d os, (grow (redrawn Wn d) os).cell? ⟨wr.heap.size, 1, none⟩ = some (.int .i64 n) := fun d os => cell_regrown (by rw [hWn]; simp [go_sem]) d os
                have d2 : ∀ d os, (grow (redrawn Wn d) os).cell? ⟨wr.heap.size, 2, none⟩ = some (.string z) := fun d os => cell_regrown (by rw [hWn]; simp [go_sem]) d os
                have k11 : Hid (∀ d os, Calls Tryd.prog 11 #[V t n z] (grow (redrawn Wn d) os) fun e w' => e = .returned (.string (valB t n z)) ∧ Below (grow (redrawn Wn d) os).heap.size (grow (redrawn Wn d) os) w') := fun d os => value_any _ (hGn.keep (below_regrown ..)) t n z hfe.2.2 (by have := hfe.1; omega)
                have k12 : Hid (∀ d os, Calls Tryd.prog 12 #[V t n z] (grow (redrawn Wn d) os) fun e w' => e = .returned (.string (valB t n z)) ∧ Below (grow (redrawn Wn d) os).heap.size (grow (redrawn Wn d) os) w') := fun d os => refValue_any _ t n z (right_type hre) hfe.2.2 (by have := hfe.1; omega)
                generalize valB t n z = VV at *
                replace bn := btrans hbel bn
                clear hfe hre hGn
                go_wp2_with fail
                rw [← hWn]
                clear hWn
                refine wp_region_quiet_below (by kernel_rfl) (by kernel_rfl) ?_
                repeat (first | go_big_quiet_step (first | (go_at_call 11; exact Calls.regrown_of (k11.out _ _)) | (go_at_call 12; exact Calls.regrown_of (k12.out _ _))))
                refine wpQuiet_nil ?_
                rintro _ ⟨⟨dq, osq⟩, rfl⟩
                have hbq := below_regrown Wn dq osq
                replace hbq := btrans bn hbq
                clear d0 d1 d2 k11 k12
                generalize grow (redrawn Wn dq) osq = w4 at hbq ⊢
                go_wp2_with fail
                go_roundw
                case rel => exact ⟨q + 1, by omega, by go_num, hbq⟩
                case measure => simp [intOf]; omega
              · have hqL : q = l.length := by omega
                subst hqL
                clear hrc
                go_wp2_with fail
                go_roundw
                case rel => exact ⟨m + 1, by omega, by go_num, hbel⟩
                case measure => simp [intOf]; omega
          · have hmL : m = L.length := by omega
            subst hmL
            have k13 := rows_any _ (hG.keep hbel) _ L (HL.out.keep hbel) HG.out
            have k14 : Hid (∀ w0, Below w.heap.size w w0 → Calls Tryd.prog 14 #[.slice la L.length lcap] w0 fun e w' => e = .returned (.string (rowsB L)) ∧ Below w0.heap.size w0 w') := fun w0 b0 => refRows_any w0 _ L (HL.out.keep b0) HG.out
            have k15 : Hid (∀ w0, Below w.heap.size w w0 → Calls Tryd.prog 15 #[.slice ca C.length ccap, .slice oa O.length ocap] w0 fun e w' => e = .returned (.string (outsB C O)) ∧ Below w0.heap.size w0 w') := fun w0 b0 => outs_any w0 (hG.keep b0) _ _ C O (HC.out.keep b0) (HO.out.keep b0) gC HGO.out (by omega)
            have k16 : Hid (∀ w0, Below w.heap.size w w0 → Calls Tryd.prog 16 #[.slice ca C.length ccap, .slice oa O.length ocap] w0 fun e w' => e = .returned (.string (outsB C O)) ∧ Below w0.heap.size w0 w') := fun w0 b0 => refOuts_any w0 _ _ C O (HC.out.keep b0) (HO.out.keep b0) gC HGO.out
            generalize rowsB L = RB at *
            generalize outsB C O = OB at *
            clear hlc
            go_wp2_with fail
            refine k13.mono ?_
            rintro e w2 ⟨rfl, b2⟩
            replace hbel := btrans hbel b2
            clear k13 b2
            go_wp2_with fail
            refine (k14.out w2 hbel).mono ?_
            rintro e w3 ⟨rfl, b3⟩
            replace hbel := btrans hbel b3
            clear k14 b3
            go_wp2_with fail
            refine (k15.out w3 hbel).mono ?_
            rintro e w4 ⟨rfl, b4⟩
            replace hbel := btrans hbel b4
            clear k15 b4
            go_wp2_with fail
            refine (k16.out w4 hbel).mono ?_
            rintro e w5 ⟨rfl, b5⟩
            replace hbel := btrans hbel b5
            clear k16 b5
            go_wp2_with fail
            refine (hal.out w5 hbel).mono ?_
            rintro e w6 ⟨rfl, b6⟩
            go_wp2_with fail
            go_ret
            exact ⟨rfl, btrans hbel b6⟩

end Go.Proofs.YtcnbbmgclphfdaaDoor
