/- The law RowsOrder, walked. -/
import Derived.Test.YtalfeggddfpgeaaDoorRwOrd1
namespace Go.Proofs.YtalfeggddfpgeaaDoor
open Go.RowKit Go.Sort

set_option maxRecDepth 100000 in
set_option maxHeartbeats 16000000 in
theorem rowsOrder_any (v : Value) (L : List Row) (w : World) (hL : LiesR w v L) (iL : ∀ r ∈ L, ∀ e ∈ r, inR e.1 ∧ inR e.2.1) :
    Calls Tryd.prog 4 #[v] w fun e w' => e = .returned (.bool true) ∧ Below w.heap.size w w' := by
  obtain ⟨ao, ac, hv, _, _⟩ := id hL
  have hf := few_any _ _ [L] (LiesLL.single hL) (by simp)
  rw [few_single] at hf
  subst hv
  cases hz : okL L
  · rw [hz] at hf
    clear hL
    go_enter Tryd.func4, Tryd.ntmps4
    go_wp2_with fail
    refine hf.mono ?_
    rintro e w1 ⟨rfl, b1⟩
    go_wp2_with fail
    refine (alive_any _).mono ?_
    rintro e w2 ⟨rfl, b2⟩
    go_wp2_with fail
    go_ret
    exact ⟨rfl, btrans (bnew b1) b2⟩
  · rw [hz] at hf
    obtain ⟨rL, lL⟩ := right_of_ok hz iL
    have sL := rL.small
    have FAIRL : Aside (∀ r ∈ L, r.length ≤ 60 ∧ Fair r) := fun r hr => ⟨sL r hr, (rL r hr).1.2⟩
    have L40 : Aside (∀ r ∈ L, r.length ≤ 40) := fun r hr => (rL r hr).2
    clear hz iL
    go_enter Tryd.func4, Tryd.ntmps4
    go_wp2_with fail
    refine hf.mono ?_
    rintro e w1 ⟨rfl, b1⟩
    have k1 := bnew b1
    clear hf b1
    go_wp2_with fail
    refine (sort_any _ _ _ _ L L [] (hL.keep k1) (hL.keep k1) (nilB _) (by omega) sL sL (sortOK L.length lL)).mono ?_
    rintro e w2 ⟨u, P, rfl, hp, hs, lu, b2⟩
    have k2 := btrans k1 b2
    have hSl := rowsBy_length hp
    have ORD0 : Aside (∀ i j, i < j → j < (rowsBy L P).length → ordK ((rowsBy L P).getD i []) ((rowsBy L P).getD j []) [] ≤ 0) := fun i j hij hj => by have := rowsBy_ord hp hs hij hj; simpa [List.getD, hj, show i < (rowsBy L P).length by omega] using this
    have HPERM : Aside ((rowsBy L P).Perm L) := rowsBy_perm hp
    replace lu : LiesR w2 u (rowsBy L P) := lu
    generalize rowsBy L P = S at lu hSl ORD0 HPERM
    have FAIR : Aside (∀ r ∈ S, r.length ≤ 60 ∧ Fair r) := fun r hr => FAIRL.out r (HPERM.out.mem_iff.1 hr)
    have sS : Small S := fun r hr => (FAIR.out r hr).1
    obtain ⟨so, sc, hu, _, _⟩ := id lu
    obtain ⟨n, hn⟩ : ∃ n, n = L.length := ⟨_, rfl⟩
    have HLLEN : Aside (L.length = n) := hn.symm
    have HSLEN : Aside (S.length = n) := hSl.trans hn.symm
    rw [hSl, ← hn] at hu
    rw [← hn] at lL
    subst hu
    clear hp hs b2 k1 rL hSl
    have hL2 := hL.keep k2
    have AG : Aside (∀ P, P.Perm (List.range S.length) → SortedOn (cfK S []) P 0 S.length → rowsBy S P = S) := fun P hp hs => again (fun i j hij hj => by have := ORD0.out i j hij hj; simpa [List.getD, hj, show i < S.length by omega] using this) hp hs
    have hlen : ((n : Int) != (n : Int)) = false := by simp
    have lS40 : S.length ≤ 40 := by rw [HSLEN.out]; exact lL
    rw [← hn]
    clear hn
    go_wp2_with fail
    refine (sort_any _ _ _ _ S S [] lu lu (nilB _) (by omega) sS sS (sortOK S.length lS40)).mono ?_
    rintro e w3 ⟨u3, P3, rfl, hp3, hs3, lu3, b3⟩
    have e3 : rowsBy S P3 = S := AG.out P3 hp3 hs3
    replace lu3 : LiesR w3 u3 (rowsBy S P3) := lu3
    rw [e3] at lu3
    have lu' := lu.keep b3
    clear hp3 hs3 e3 lu
    go_wp2_with fail
    refine (sameRR_any _ _ _ _ _ lu3 lu' (by omega) (by omega) sS).mono ?_
    rintro e w4 ⟨rfl, b4⟩
    rw [decide_eq_true rfl]
    have k4 := btrans (btrans k2 b3) b4
    have lS4 : LiesR w4 (.slice so n sc) S := lu'.keep b4
    have lL4 : LiesR w4 (.slice ao n ac) L := by have := hL.keep k4; rw [HLLEN.out] at this; exact this
    clear lu3 lu' b3 b4 k2 hL2
    have FS : Aside (∀ k, k < n → (S.getD k []).length ≤ 60 ∧ Fair (S.getD k [])) := fun k hk => getD_all FAIR.out (by rw [HSLEN.out]; exact hk)
    have FL : Aside (∀ k, k < n → (L.getD k []).length ≤ 60 ∧ Fair (L.getD k [])) := fun k hk => getD_all FAIRL.out (by rw [HLLEN.out]; exact hk)
    have ORD : Aside (∀ i j, i < j → j < n → ordK (S.getD i []) (S.getD j []) [] ≤ 0) := fun i j h1 h2 => ORD0.out i j h1 (by rw [HSLEN.out]; exact h2)
    clear ORD0 AG lS40 FAIR sS
    go_wp2_with fail
    go_loopw [35] (fun vi wr => ∃ i : Nat, i ≤ n ∧ vi = .int .i64 i ∧ Below w4.heap.size w4 wr) (fun vi _ => n - (intOf vi).toNat)
    case atStart => exact ⟨0, Nat.zero_le _, rfl, Below.refl _ _⟩
    case round =>
      obtain ⟨i, hi', rfl, hbel⟩ := hrel
      by_cases hi : i < n
      · have hit : decide ((i : Int) < (n : Int)) = true := by simp; omega
        obtain ⟨sb, sof, scc, hse, hs0⟩ := lS4.acc HSLEN.out hi
        obtain ⟨lb, lof, lcc, hle, hl0⟩ := lL4.acc HLLEN.out hi
        simp only [Value.slice.injEq] at hse hle
        obtain ⟨rfl, _, rfl⟩ := hse
        obtain ⟨rfl, _, rfl⟩ := hle
        have HS : Aside (Rests w4 sb sof n S) := hs0
        have HL : Aside (Rests w4 lb lof n L) := hl0
        have fy := FS.out i hi
        obtain ⟨X, hX⟩ : ∃ X, X = S.getD i [] := ⟨_, rfl⟩
        have HX : Aside (S.getD i [] = X) := hX.symm
        rw [← hX] at fy
        have CE2 : Aside (L.take n = L) := by show _ = _; rw [← HLLEN.out, List.take_length]
        have CE1 : Aside (cntR (S.take n) X = cntR (L.take n) X) := by show _ = _; rw [CE2.out, ← HSLEN.out, List.take_length]; exact cntR_perm HPERM.out X
        have CS : Aside (∀ k, k < n → cntR (S.take (k + 1)) X = cntR (S.take k) X + (if (ordK (S.getD k []) X [] == 0) = true then 1 else 0)) := fun k hk => cntR_takeD (by rw [HSLEN.out]; exact hk)
        have CL : Aside (∀ k, k < n → cntR (L.take (k + 1)) X = cntR (L.take k) X + (if (ordK (L.getD k []) X [] == 0) = true then 1 else 0)) := fun k hk => cntR_takeD (by rw [HLLEN.out]; exact hk)
        have CB : Aside (∀ k, k < n → cntR (S.take k) X ≤ 40 ∧ cntR (L.take k) X ≤ 40) := fun k hk => ⟨Nat.le_trans (cntR_le _ X) (by simp; omega), Nat.le_trans (cntR_le _ X) (by simp; omega)⟩
        have z3 : (0 : Int) ≤ (i : Int) := by omega
        have z4 : (i : Int) < (n : Int) := by omega
        clear hs0 hl0 hX lS4 lL4
        obtain ⟨wx, rfl⟩ : ∃ x, x = wr := ⟨_, rfl⟩
        by_cases hi0 : i = 0
        · have hiz : decide ((0 : Int) < (i : Int)) = false := by simp; omega
          have hin : decide (0 < i) = false := by simp; omega
          have HI0 : Hid (i = 0) := hi0
          clear hi0
          go_wp2_with fail
          refine wp_region_quiet_below (by kernel_rfl) (by kernel_rfl) ?_
          repeat (first | go_big_quiet_step (fail) | quiet_step (fail))
          refine wpQuiet_nil ?_
          rintro _ ⟨⟨dq, osq⟩, rfl⟩
          have hb := below_regrown wx dq osq
          generalize grow (redrawn wx dq) osq = w5 at hb ⊢
          have hb5 := btrans hbel hb
          clear hb
          go_wp2_with fail
          go_loopw [5, 6, 55] (fun vn vm vk wr => ∃ k : Nat, k ≤ n ∧ vk = .int .i64 k ∧ vn = .int .i64 (cntR (S.take k) X : Int) ∧ vm = .int .i64 (cntR (L.take k) X : Int) ∧ Below w4.heap.size w4 wr) (fun _ _ vk _ => n - (intOf vk).toNat)
          case atStart => exact ⟨0, Nat.zero_le _, rfl, by simp [cntR], by simp [cntR], hb5⟩
          case round =>
            obtain ⟨k, hk, rfl, rfl, rfl, hbk⟩ := hrel
            clear hb5
            by_cases hkn : k < n
            · have hkt : decide ((k : Int) < (n : Int)) = true := by simp; omega
              have T1 : Hid _ := CS.out k hkn
              have T2 : Hid _ := CL.out k hkn
              have b1 := CB.out k hkn
              generalize cntR (S.take k) X = N1 at T1 b1 ⊢
              generalize cntR (L.take k) X = N2 at T2 b1 ⊢
              obtain ⟨x, c1, d1⟩ := HS.out _ hbk k hkn
              obtain ⟨y', c2, d2⟩ := HS.out _ hbk i hi
              obtain ⟨z, c3, d3⟩ := HL.out _ hbk k hkn
              rw [HX.out] at d2
              have fx := FS.out k hkn
              have fz := FL.out k hkn
              generalize S.getD k [] = Y at T1 d1 fx
              generalize L.getD k [] = Z at T2 d3 fz
              have hcall : Aside (∀ dd os, Calls Tryd.prog 10 #[x, y', .slice none 0 0] (grow (redrawn wr dd) os) fun e w' => e = .returned (.int .i64 (ordK Y X [])) ∧ Below (grow (redrawn wr dd) os).heap.size (grow (redrawn wr dd) os) w') := fun dd os => refOrdK_any _ _ _ _ _ _ [] (d1.keep (below_regrown ..)) (d2.keep (below_regrown ..)) (nilB _) fx.1 fy.1 fx.2 fy.2
              have u1 : ∀ d os, (grow (redrawn wr d) os).cell? ⟨sb, sof + k, none⟩ = some x := fun d os => cell_regrown c1 d os
              have u2 : ∀ d os, (grow (redrawn wr d) os).cell? ⟨sb, sof + i, none⟩ = some y' := fun d os => cell_regrown c2 d os
              have z1 : (0 : Int) ≤ (k : Int) := by omega
              have z2 : (k : Int) < (n : Int) := by omega
              cases hz1 : (ordK Y X [] == 0)
              all_goals
                cases hz2 : (ordK Z X [] == 0)
                all_goals
                  go_wp2_with fail
                  refine wp_region_quiet_below (by kernel_rfl) (by kernel_rfl) ?_
                  repeat (first | go_big_quiet_step (exact Calls.regrown_of (hcall.out _ _)) | quiet_step (exact Calls.regrown_of (hcall.out _ _)))
                  refine wpQuiet_nil ?_
                  rintro _ ⟨⟨dq, osq⟩, rfl⟩
                  have hb := below_regrown wr dq osq
                  generalize grow (redrawn wr dq) osq = w6 at hb ⊢
                  have hb6 := btrans hbk hb
                  have c2' := cell_keep c2 hb
                  have c3' := cell_keep c3 hb
                  have d2' := d2.keep hb
                  have d3' := d3.keep hb
                  have hcall2 : Aside (∀ dd os, Calls Tryd.prog 10 #[z, y', .slice none 0 0] (grow (redrawn w6 dd) os) fun e w' => e = .returned (.int .i64 (ordK Z X [])) ∧ Below (grow (redrawn w6 dd) os).heap.size (grow (redrawn w6 dd) os) w') := fun dd os => refOrdK_any _ _ _ _ _ _ [] (d3'.keep (below_regrown ..)) (d2'.keep (below_regrown ..)) (nilB _) fz.1 fy.1 fz.2 fy.2
                  have v1 : ∀ d os, (grow (redrawn w6 d) os).cell? ⟨lb, lof + k, none⟩ = some z := fun d os => cell_regrown c3' d os
                  have v2 : ∀ d os, (grow (redrawn w6 d) os).cell? ⟨sb, sof + i, none⟩ = some y' := fun d os => cell_regrown c2' d os
                  clear u1 u2 c1 c2 c3 d1 d2 d3 hcall hb hbk
                  go_wp2_with fail
                  refine wp_region_quiet_below (by kernel_rfl) (by kernel_rfl) ?_
                  repeat (first | go_big_quiet_step (exact Calls.regrown_of (hcall2.out _ _)) | quiet_step (exact Calls.regrown_of (hcall2.out _ _)))
                  refine wpQuiet_nil ?_
                  rintro _ ⟨⟨dq, osq⟩, rfl⟩
                  have hb := below_regrown w6 dq osq
                  generalize grow (redrawn w6 dq) osq = w7 at hb ⊢
                  have hb7 := btrans hb6 hb
                  clear v1 v2 hcall2 hb hb6 c2' c3' d2' d3'
                  go_wp2_with fail
                  go_roundw
                  case rel => exact ⟨k + 1, by omega, by go_num, by rw [T1.out, hz1]; first | rfl | go_num, by rw [T2.out, hz2]; first | rfl | go_num, hb7⟩
                  case measure => simp [intOf]; omega
            · have hkt : decide ((k : Int) < (n : Int)) = false := by simp; omega
              have hke : k = n := by omega
              subst hke
              rw [CE1.out, CE2.out]
              have hcc : ((cntR L X : Int) != (cntR L X : Int)) = false := by simp
              generalize cntR L X = N1 at hcc ⊢
              clear hbel
              go_wp2_with fail
              go_roundw
              case rel => exact ⟨i + 1, by omega, by go_num, hbk⟩
              case measure => simp [intOf]; omega
        · obtain ⟨j, hij⟩ : ∃ j, i = j + 1 := ⟨i - 1, by omega⟩
          have hiz : decide ((0 : Int) < (i : Int)) = true := by simp; omega
          have hin : decide (0 < i) = true := by simp; omega
          have hj : j < n := by omega
          have ho := ORD.out j i (by omega) hi
          have fj := FS.out j hj
          obtain ⟨x0, c1, d1⟩ := HS.out _ hbel j hj
          obtain ⟨y0, c2, d2⟩ := HS.out _ hbel i hi
          rw [HX.out] at d2 ho
          generalize S.getD j [] = Y at d1 fj ho
          have hcall : Aside (∀ dd os, Calls Tryd.prog 10 #[x0, y0, .slice none 0 0] (grow (redrawn wx dd) os) fun e w' => e = .returned (.int .i64 (ordK Y X [])) ∧ Below (grow (redrawn wx dd) os).heap.size (grow (redrawn wx dd) os) w') := fun dd os => refOrdK_any _ _ _ _ _ _ [] (d1.keep (below_regrown ..)) (d2.keep (below_regrown ..)) (nilB _) fj.1 fy.1 fj.2 fy.2
          generalize ordK Y X [] = o at ho hcall
          have hog : decide (0 < o) = false := by simp; omega
          have u1 : ∀ d os, (grow (redrawn wx d) os).cell? ⟨sb, sof + j, none⟩ = some x0 := fun d os => cell_regrown c1 d os
          have u2 : ∀ d os, (grow (redrawn wx d) os).cell? ⟨sb, sof + i, none⟩ = some y0 := fun d os => cell_regrown c2 d os
          have hwi : IntKind.i64.wrap ((i : Int) - 1) = (j : Int) := by rw [IntKind.wrap_i64]; omega
          have z1 : (0 : Int) ≤ (j : Int) := by omega
          have z2 : (j : Int) < (n : Int) := by omega
          have HIJ : Hid (i = j + 1) := hij
          clear hij hi0
          go_wp2_with fail
          refine wp_region_quiet_below (by kernel_rfl) (by kernel_rfl) ?_
          repeat (first | go_big_quiet_step (exact Calls.regrown_of (hcall.out _ _)) | quiet_step (exact Calls.regrown_of (hcall.out _ _)))
          refine wpQuiet_nil ?_
          rintro _ ⟨⟨dq, osq⟩, rfl⟩
          have hb := below_regrown wx dq osq
          generalize grow (redrawn wx dq) osq = w5 at hb ⊢
          have hb5 := btrans hbel hb
          clear hb u1 u2 c1 c2 d1 d2 hcall z1 z2 hwi hj fj
          go_wp2_with fail
          go_loopw [5, 6, 55] (fun vn vm vk wr => ∃ k : Nat, k ≤ n ∧ vk = .int .i64 k ∧ vn = .int .i64 (cntR (S.take k) X : Int) ∧ vm = .int .i64 (cntR (L.take k) X : Int) ∧ Below w4.heap.size w4 wr) (fun _ _ vk _ => n - (intOf vk).toNat)
          case atStart => exact ⟨0, Nat.zero_le _, rfl, by simp [cntR], by simp [cntR], hb5⟩
          case round =>
            obtain ⟨k, hk, rfl, rfl, rfl, hbk⟩ := hrel
            clear hb5
            by_cases hkn : k < n
            · have hkt : decide ((k : Int) < (n : Int)) = true := by simp; omega
              have T1 : Hid _ := CS.out k hkn
              have T2 : Hid _ := CL.out k hkn
              have b1 := CB.out k hkn
              generalize cntR (S.take k) X = N1 at T1 b1 ⊢
              generalize cntR (L.take k) X = N2 at T2 b1 ⊢
              obtain ⟨x, c1, d1⟩ := HS.out _ hbk k hkn
              obtain ⟨y', c2, d2⟩ := HS.out _ hbk i hi
              obtain ⟨z, c3, d3⟩ := HL.out _ hbk k hkn
              rw [HX.out] at d2
              have fx := FS.out k hkn
              have fz := FL.out k hkn
              generalize S.getD k [] = Y at T1 d1 fx
              generalize L.getD k [] = Z at T2 d3 fz
              have hcall : Aside (∀ dd os, Calls Tryd.prog 10 #[x, y', .slice none 0 0] (grow (redrawn wr dd) os) fun e w' => e = .returned (.int .i64 (ordK Y X [])) ∧ Below (grow (redrawn wr dd) os).heap.size (grow (redrawn wr dd) os) w') := fun dd os => refOrdK_any _ _ _ _ _ _ [] (d1.keep (below_regrown ..)) (d2.keep (below_regrown ..)) (nilB _) fx.1 fy.1 fx.2 fy.2
              have u1 : ∀ d os, (grow (redrawn wr d) os).cell? ⟨sb, sof + k, none⟩ = some x := fun d os => cell_regrown c1 d os
              have u2 : ∀ d os, (grow (redrawn wr d) os).cell? ⟨sb, sof + i, none⟩ = some y' := fun d os => cell_regrown c2 d os
              have z1 : (0 : Int) ≤ (k : Int) := by omega
              have z2 : (k : Int) < (n : Int) := by omega
              cases hz1 : (ordK Y X [] == 0)
              all_goals
                cases hz2 : (ordK Z X [] == 0)
                all_goals
                  go_wp2_with fail
                  refine wp_region_quiet_below (by kernel_rfl) (by kernel_rfl) ?_
                  repeat (first | go_big_quiet_step (exact Calls.regrown_of (hcall.out _ _)) | quiet_step (exact Calls.regrown_of (hcall.out _ _)))
                  refine wpQuiet_nil ?_
                  rintro _ ⟨⟨dq, osq⟩, rfl⟩
                  have hb := below_regrown wr dq osq
                  generalize grow (redrawn wr dq) osq = w6 at hb ⊢
                  have hb6 := btrans hbk hb
                  have c2' := cell_keep c2 hb
                  have c3' := cell_keep c3 hb
                  have d2' := d2.keep hb
                  have d3' := d3.keep hb
                  have hcall2 : Aside (∀ dd os, Calls Tryd.prog 10 #[z, y', .slice none 0 0] (grow (redrawn w6 dd) os) fun e w' => e = .returned (.int .i64 (ordK Z X [])) ∧ Below (grow (redrawn w6 dd) os).heap.size (grow (redrawn w6 dd) os) w') := fun dd os => refOrdK_any _ _ _ _ _ _ [] (d3'.keep (below_regrown ..)) (d2'.keep (below_regrown ..)) (nilB _) fz.1 fy.1 fz.2 fy.2
                  have v1 : ∀ d os, (grow (redrawn w6 d) os).cell? ⟨lb, lof + k, none⟩ = some z := fun d os => cell_regrown c3' d os
                  have v2 : ∀ d os, (grow (redrawn w6 d) os).cell? ⟨sb, sof + i, none⟩ = some y' := fun d os => cell_regrown c2' d os
                  clear u1 u2 c1 c2 c3 d1 d2 d3 hcall hb hbk
                  go_wp2_with fail
                  refine wp_region_quiet_below (by kernel_rfl) (by kernel_rfl) ?_
                  repeat (first | go_big_quiet_step (exact Calls.regrown_of (hcall2.out _ _)) | quiet_step (exact Calls.regrown_of (hcall2.out _ _)))
                  refine wpQuiet_nil ?_
                  rintro _ ⟨⟨dq, osq⟩, rfl⟩
                  have hb := below_regrown w6 dq osq
                  generalize grow (redrawn w6 dq) osq = w7 at hb ⊢
                  have hb7 := btrans hb6 hb
                  clear v1 v2 hcall2 hb hb6 c2' c3' d2' d3'
                  go_wp2_with fail
                  go_roundw
                  case rel => exact ⟨k + 1, by omega, by go_num, by rw [T1.out, hz1]; first | rfl | go_num, by rw [T2.out, hz2]; first | rfl | go_num, hb7⟩
                  case measure => simp [intOf]; omega
            · have hkt : decide ((k : Int) < (n : Int)) = false := by simp; omega
              have hke : k = n := by omega
              subst hke
              rw [CE1.out, CE2.out]
              have hcc : ((cntR L X : Int) != (cntR L X : Int)) = false := by simp
              generalize cntR L X = N1 at hcc ⊢
              clear hbel
              go_wp2_with fail
              go_roundw
              case rel => exact ⟨i + 1, by omega, by go_num, hbk⟩
              case measure => simp [intOf]; omega
      · have hit : decide ((i : Int) < (n : Int)) = false := by simp; omega
        obtain ⟨wx, rfl⟩ : ∃ x, x = wr := ⟨_, rfl⟩
        clear lS4 ORD FS FL HPERM HSLEN hlen
        go_wp2_with (at_make; refine wpList_make1 info_bool Tryd.underlying23 rfl (by decide) (.const (.int .i64 40)) (.const (.int .i64 40)) rfl rfl .i64 .i64 40 rfl rfl (by omega) (Nat.le_refl _) ?_; intro w5 ho5 hb5)
        go_loopw [90] (fun vi wr => ∃ k : Nat, k ≤ 40 ∧ vi = .int .i64 k ∧ Own1 wr wx.heap.size 4 (.slice (some ⟨wx.heap.size, 0, none⟩) 40 40) (trues k) ∧ Below wx.heap.size wx wr) (fun vi _ => 40 - (intOf vi).toNat)
        case atStart => exact ⟨0, by omega, rfl, by rw [trues_zero]; exact ho5, hb5⟩
        case round =>
          clear ho5 hb5
          obtain ⟨k, hk, rfl, hd, hbk⟩ := hrel
          by_cases hk40 : k < 40
          · have hkt : decide ((k : Int) < 40) = true := by simp; omega
            have hkt' : decide (k < 40) = true := by simp; omega
            obtain ⟨c1, f1⟩ := hd.cellAt (i := k) (by rw [trues_length hk]; omega)
            have hst := Own1.stored (xs := trues k) (by rw [trues_length hk]; exact hd) k (.bool true)
            rw [trues_length hk, trues_set hk40] at hst
            generalize (trues k)[k]'_ = c at c1
            go_wp2_with fail
            go_roundw
            case rel => exact ⟨k + 1, by omega, by go_num, hst, hbk.setCell (Nat.le_refl _) _⟩
            case measure => simp [intOf]; omega
          · have hke : k = 40 := by omega
            subst hke
            have hdB : LiesB wr (.slice (some ⟨wx.heap.size, 0, none⟩) 40 40) (List.replicate 40 true) := by have := hd.lies; rw [trues_all] at this; exact this
            have k6 := btrans (btrans k4 hbel) hbk
            have lL6 : LiesR wr (.slice ao n ac) L := by have := hL.keep k6; rw [HLLEN.out] at this; exact this
            clear hd k4 hbel hbk
            obtain ⟨wy, rfl⟩ : ∃ x, x = wr := ⟨_, rfl⟩
            go_wp2_with fail
            refine (sort_any _ _ _ _ L L (List.replicate 40 true) lL6 lL6 hdB (by rw [HLLEN.out]; omega) sL sL (sortOK L.length (by rw [HLLEN.out]; exact lL))).mono ?_
            rintro e w8 ⟨u8, P8, rfl, hp8, hs8, lu8, b8⟩
            have HTL : Aside ((rowsBy L P8).length = n) := (rowsBy_length hp8).trans HLLEN.out
            have HTP : Aside ((rowsBy L P8).Perm L) := rowsBy_perm hp8
            have ORDT : Aside (∀ i j, i < j → j < n → 0 ≤ ordK ((rowsBy L P8).getD i []) ((rowsBy L P8).getD j []) []) := fun i j hij hj => by
              have hj' : j < (rowsBy L P8).length := by rw [HTL.out]; exact hj
              have h40 : ∀ r ∈ rowsBy L P8, r.length ≤ 40 := fun r hr => L40.out r (HTP.out.mem_iff.1 hr)
              have := rowsBy_ord hp8 hs8 hij hj'
              rw [ordK_turned _ _ 40 (h40 _ (List.getElem_mem _)) (h40 _ (List.getElem_mem _))] at this
              have e1 : (rowsBy L P8).getD i [] = (rowsBy L P8)[i]'(by omega) := by simp [List.getD, show i < (rowsBy L P8).length by omega]
              have e2 : (rowsBy L P8).getD j [] = (rowsBy L P8)[j] := by simp [List.getD, hj']
              rw [e1, e2]
              omega
            have FT : Aside (∀ k, k < n → ((rowsBy L P8).getD k []).length ≤ 60 ∧ Fair ((rowsBy L P8).getD k [])) := fun k hk => getD_all (fun r hr => FAIRL.out r (HTP.out.mem_iff.1 hr)) (by rw [HTL.out]; exact hk)
            replace lu8 : LiesR w8 u8 (rowsBy L P8) := lu8
            have k8 := btrans k6 b8
            generalize rowsBy L P8 = T at lu8 HTL HTP ORDT FT
            obtain ⟨to', tc, hu8, _, _⟩ := id lu8
            rw [HTL.out] at hu8
            subst hu8
            have hEQ : ((n : Int) == (n : Int)) = true := by simp
            clear hp8 hs8 b8 k6 lL6 HTP L40 FAIRL sL hL
            go_wp2_with fail
            go_loopw [103] (fun vi wr => ∃ i : Nat, i ≤ n ∧ vi = .int .i64 i ∧ Below w8.heap.size w8 wr) (fun vi _ => n - (intOf vi).toNat)
            case atStart => exact ⟨0, Nat.zero_le _, rfl, Below.refl _ _⟩
            case round =>
              obtain ⟨i, hi', rfl, hbt⟩ := hrel
              by_cases hi : i < n
              · have hit : decide ((i : Int) < (n : Int)) = true := by simp; omega
                obtain ⟨tb, tof, tcc, hte, ht0⟩ := lu8.acc HTL.out hi
                simp only [Value.slice.injEq] at hte
                obtain ⟨rfl, _, rfl⟩ := hte
                have HT : Aside (Rests w8 tb tof n T) := ht0
                have z3 : (0 : Int) ≤ (i : Int) := by omega
                have z4 : (i : Int) < (n : Int) := by omega
                clear ht0 lu8
                by_cases hi0 : i = 0
                · have hiz : decide ((0 : Int) < (i : Int)) = false := by simp; omega
                  have hin : decide (0 < i) = false := by simp; omega
                  have HI0 : Hid (i = 0) := hi0
                  clear hi0
                  go_wp2_with fail
                  refine wp_region_quiet_below (by kernel_rfl) (by kernel_rfl) ?_
                  repeat (first | go_big_quiet_step (fail) | quiet_step (fail))
                  refine wpQuiet_nil ?_
                  rintro _ ⟨⟨dq, osq⟩, rfl⟩
                  have hb := below_regrown wr dq osq
                  generalize grow (redrawn wr dq) osq = w9 at hb ⊢
                  have hb9 := btrans hbt hb
                  clear hb hbt
                  go_wp2_with fail
                  go_roundw
                  case rel => exact ⟨i + 1, by omega, by go_num, hb9⟩
                  case measure => simp [intOf]; omega
                · obtain ⟨j, hij⟩ : ∃ j, i = j + 1 := ⟨i - 1, by omega⟩
                  have hiz : decide ((0 : Int) < (i : Int)) = true := by simp; omega
                  have hin : decide (0 < i) = true := by simp; omega
                  have hj : j < n := by omega
                  have ho := ORDT.out j i (by omega) hi
                  have fj := FT.out j hj
                  have fi := FT.out i hi
                  obtain ⟨x0, c1, d1⟩ := HT.out _ hbt j hj
                  obtain ⟨y0, c2, d2⟩ := HT.out _ hbt i hi
                  generalize T.getD j [] = Y at d1 fj ho
                  generalize T.getD i [] = X at d2 fi ho
                  have hcall : Aside (∀ dd os, Calls Tryd.prog 10 #[x0, y0, .slice none 0 0] (grow (redrawn wr dd) os) fun e w' => e = .returned (.int .i64 (ordK Y X [])) ∧ Below (grow (redrawn wr dd) os).heap.size (grow (redrawn wr dd) os) w') := fun dd os => refOrdK_any _ _ _ _ _ _ [] (d1.keep (below_regrown ..)) (d2.keep (below_regrown ..)) (nilB _) fj.1 fi.1 fj.2 fi.2
                  generalize ordK Y X [] = o at ho hcall
                  have hog : decide (o < 0) = false := by simp; omega
                  have u1 : ∀ d os, (grow (redrawn wr d) os).cell? ⟨tb, tof + j, none⟩ = some x0 := fun d os => cell_regrown c1 d os
                  have u2 : ∀ d os, (grow (redrawn wr d) os).cell? ⟨tb, tof + i, none⟩ = some y0 := fun d os => cell_regrown c2 d os
                  have hwi : IntKind.i64.wrap ((i : Int) - 1) = (j : Int) := by rw [IntKind.wrap_i64]; omega
                  have z1 : (0 : Int) ≤ (j : Int) := by omega
                  have z2 : (j : Int) < (n : Int) := by omega
                  have HIJ : Hid (i = j + 1) := hij
                  clear hij hi0
                  go_wp2_with fail
                  refine wp_region_quiet_below (by kernel_rfl) (by kernel_rfl) ?_
                  repeat (first | go_big_quiet_step (exact Calls.regrown_of (hcall.out _ _)) | quiet_step (exact Calls.regrown_of (hcall.out _ _)))
                  refine wpQuiet_nil ?_
                  rintro _ ⟨⟨dq, osq⟩, rfl⟩
                  have hb := below_regrown wr dq osq
                  generalize grow (redrawn wr dq) osq = w9 at hb ⊢
                  have hb9 := btrans hbt hb
                  clear hb hbt u1 u2 c1 c2 d1 d2 hcall z1 z2 hwi hj fj fi
                  go_wp2_with fail
                  go_roundw
                  case rel => exact ⟨i + 1, by omega, by go_num, hb9⟩
                  case measure => simp [intOf]; omega
              · have hit : decide ((i : Int) < (n : Int)) = false := by simp; omega
                clear lu8 ORDT FT HTL
                go_wp2_with fail
                refine (alive_any _).mono ?_
                rintro e w9 ⟨rfl, b9⟩
                go_wp2_with fail
                go_ret
                exact ⟨rfl, btrans (btrans k8 hbt) b9⟩

end Go.Proofs.YtalfeggddfpgeaaDoor
