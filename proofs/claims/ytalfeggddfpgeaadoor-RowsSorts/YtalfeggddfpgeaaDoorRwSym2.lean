/- The library's merge in place, walked. -/
import Derived.Test.YtalfeggddfpgeaaDoorRwSym
namespace Go.Proofs.YtalfeggddfpgeaaDoor
open Go.RowKit Go.Sort

set_option maxRecDepth 100000 in
set_option maxHeartbeats 16000000 in
/-- One place ahead. -/
theorem symA_any (w0 : World) (base g cap n K : Nat) (cb : Array Value) (cf : Nat → Nat → Int) (hcmp : CmpOK w0 g n K cb cf) (hK : ∀ a w, (callFunc K a).run Tryd.prog w = .ok (.enter K a) w) (hc : Pre cf) (hn : n ≤ 1000)
    (w : World) (P : List Nat) (a m b : Nat) (hd : DataAt w base g cap n P) (hg : w0.grownBy w (some g)) (hM : Mrg cf P a m b) (hlt : ∀ x ∈ P, x < n) (hA : m = a + 1) :
      Calls Tryd.prog 36 #[.slice (some ⟨g, 0, none⟩) n cap, .int .i64 a, .int .i64 m, .int .i64 b, .func (.func K) #[] cb] w fun e w' => e = .returned (.tuple #[]) ∧ ∃ P', DataAt w' base g cap n P' ∧ P'.Perm P ∧ SameOut P' P a b ∧ SortedOn cf P' a b ∧ w0.grownBy w' (some g) := by
  have ham := hM.am
  have hmb := hM.mb
  have hbl := hM.bl
  have hPl : P.length = n := hd.1
  have HCM : Aside _ := hcmp
  have HLT : Aside _ := hlt
  have HC : Aside _ := hc
  have HM : Aside _ := hM
  have hwa : IntKind.i64.wrap ((m : Int) - (a : Int)) = (m : Int) - (a : Int) := by rw [IntKind.wrap_i64]; omega
  clear hcmp hlt hc hM
  have HA : Hid (m = a + 1) := hA
  have hAt : (m : Int) - (a : Int) = 1 := by omega
  clear hA
  go_enter Tryd.func36, Tryd.ntmps36
  go_wp2_with fail
  go_loopw [10, 11] (fun vi vj wr => ∃ i j : Nat, vi = .int .i64 i ∧ vj = .int .i64 j ∧ m ≤ i ∧ i ≤ j ∧ j ≤ b ∧ (∀ k, m ≤ k → k < i → cf (nth P k) (nth P a) < 0) ∧ (∀ k, j ≤ k → k < b → 0 ≤ cf (nth P k) (nth P a)) ∧ DataAt wr base g cap n P ∧ w0.grownBy wr (some g)) (fun vi vj _ => (intOf vj).toNat - (intOf vi).toNat)
  case atStart => exact ⟨m, b, rfl, rfl, Nat.le_refl _, by omega, Nat.le_refl _, fun k h1 h2 => by omega, fun k h1 h2 => by omega, hd, hg⟩
  case round =>
    obtain ⟨i, j, rfl, rfl, hmi, hij, hjb, hlo, hhi, hdr, hgr⟩ := hrel
    clear hd hg
    have HLO : Aside _ := And.intro hlo hhi
    clear hlo hhi
    by_cases hlt : i < j
    · have hltt : decide ((i : Int) < (j : Int)) = true := by simp; omega
      obtain ⟨h, hh⟩ : ∃ h : Nat, ((i : Int) + (j : Int)) / 2 = (h : Int) := ⟨(i + j) / 2, by omega⟩
      have hih : i ≤ h := by omega
      have hhj : h < j := by omega
      have z1 : (h : Int) < (n : Int) := by omega
      have z2 : (a : Int) < (n : Int) := by omega
      have z3 : (0 : Int) ≤ (h : Int) := by omega
      have z4 : (0 : Int) ≤ (a : Int) := by omega
      obtain ⟨c1, f1⟩ := hdr.cell (show h < n by omega)
      obtain ⟨c2, f2⟩ := hdr.cell (show a < n by omega)
      have hpx := nth_lt (List.Perm.refl _) HLT.out (show h < P.length by omega)
      have hqx := nth_lt (List.Perm.refl _) HLT.out (show a < P.length by omega)
      have cc1 : ∀ d os, (grow (redrawn wr d) os).cell? ⟨g, h, none⟩ = some (.int .i64 (nth P (h) : Int)) := fun d os => cell_regrown c1 d os
      have cc2 : ∀ d os, (grow (redrawn wr d) os).cell? ⟨g, a, none⟩ = some (.int .i64 (nth P (a) : Int)) := fun d os => cell_regrown c2 d os
      have hcl : Aside (∀ d os, Calls Tryd.prog K (#[.int .i64 (nth P (h) : Int), .int .i64 (nth P (a) : Int)] ++ cb) (grow (redrawn wr d) os) fun e w'' => e = .returned (.int .i64 (cf (nth P (h)) (nth P (a)))) ∧ Below (grow (redrawn wr d) os).heap.size (grow (redrawn wr d) os) w'') := fun d os => HCM.out _ (grownBy_below hgr (below_regrown ..)) _ _ hpx hqx
      clear c1 c2 f1 f2
      go_wp2_with fail
      refine wp_region_quiet_below (by kernel_rfl) (by kernel_rfl) ?_
      repeat (first | go_big_quiet_step (exact Calls.regrown_of (hcl.out _ _)) | quiet_step (exact Calls.regrown_of (hcl.out _ _)))
      refine wpQuiet_nil ?_
      rintro _ ⟨⟨dq, osq⟩, rfl⟩
      have hb := below_regrown wr dq osq
      generalize grow (redrawn wr dq) osq = w4 at hb ⊢
      have d4 := hdr.keep hb
      have g4 := grownBy_below hgr hb
      clear cc1 cc2 hcl hpx hqx hdr hgr hb
      by_cases hz : cf (nth P h) (nth P a) < 0
      · have hzb : decide (cf (nth P h) (nth P a) < 0) = true := by simpa using hz
        have HLO2 : Aside (∀ k, m ≤ k → k < h + 1 → cf (nth P k) (nth P a) < 0) := fun k h1 h2 => by
          by_cases c : k = h
          · rw [c]; exact hz
          · by_cases c2 : k < i
            · exact HLO.out.1 k h1 c2
            · have := lt_trans' HC.out (HM.out.s2 k h h1 (by omega) (by omega)) (.inl hz)
              rcases this with t | ⟨_, t⟩
              · exact t
              · have := HM.out.low a k (Nat.le_refl _) ham h1 (by omega); omega
        generalize cf (nth P h) (nth P a) = cv at hz hzb ⊢
        go_wp2_with fail
        go_roundw
        case rel => exact ⟨h + 1, j, by go_num, rfl, by omega, by omega, hjb, HLO2.out, HLO.out.2, d4, g4⟩
        case measure => simp [intOf]; omega
      · have hzb : decide (cf (nth P h) (nth P a) < 0) = false := by simpa using hz
        have HHI2 : Aside (∀ k, h ≤ k → k < b → 0 ≤ cf (nth P k) (nth P a)) := fun k h1 h2 => by
          by_cases c : k = h
          · rw [c]; omega
          · apply Int.not_lt.1
            intro hk
            have q0 : lt cf (nth P a) (nth P h) := lt_not HC.out (HM.out.low a h (Nat.le_refl _) ham (by omega) (by omega)) hz
            have q1 := lt_trans' HC.out q0 (HM.out.s2 h k (by omega) (by omega) h2)
            exact lt_asymm' HC.out q1 (.inl hk)
        generalize cf (nth P h) (nth P a) = cv at hz hzb ⊢
        go_wp2_with fail
        go_roundw
        case rel => exact ⟨i, h, rfl, rfl, hmi, hih, by omega, HLO.out.1, HHI2.out, d4, g4⟩
        case measure => simp [intOf]; omega
    · have hltt : decide ((i : Int) < (j : Int)) = false := by simp; omega
      have hij' : i = j := by omega
      subst hij'
      have hwi : IntKind.i64.wrap ((i : Int) - 1) = ((i - 1 : Nat) : Int) := by rw [IntKind.wrap_i64]; omega
      have hwi2 : (i : Int) - 1 = ((i - 1 : Nat) : Int) := by omega
      obtain ⟨i1, hi1⟩ : ∃ i1, i1 = i - 1 := ⟨_, rfl⟩
      rw [← hi1] at hwi hwi2
      have HI1 : Hid (i1 = i - 1) := hi1
      have hai1 : a ≤ i1 := by omega
      have hi1n : i1 < n := by omega
      clear hi1
      go_wp2_with fail
      go_loopw [13] (fun vk wr => ∃ (k : Nat) (Q : List Nat), vk = .int .i64 k ∧ a ≤ k ∧ k ≤ i1 ∧ DataAt wr base g cap n Q ∧ Q.Perm P ∧ (∀ t, nth Q t = shU (nth P) a k t) ∧ w0.grownBy wr (some g)) (fun vk _ => i1 - (intOf vk).toNat)
      case atStart => exact ⟨a, P, rfl, Nat.le_refl _, hai1, hdr, List.Perm.refl _, fun t => (shU_zero _ _ _).symm, hgr⟩
      case round =>
        clear hdr hgr
        obtain ⟨k, Q, rfl, hak, hki, hdq, hperm, hsh, hgr⟩ := hrel
        have hQl := hdq.1
        by_cases hk1 : k < i1
        · have hkt : decide ((k : Int) < (i1 : Int)) = true := by simp; omega
          obtain ⟨c1, f1⟩ := hdq.cell (show k < n by omega)
          obtain ⟨c2, f2⟩ := hdq.cell (show k + 1 < n by omega)
          have HSW : Aside (DataAt ((wr.setCell ⟨g, k, none⟩ (.int .i64 (nth Q (k + 1) : Int))).setCell ⟨g, k + 1, none⟩ (.int .i64 (nth Q k : Int))) base g cap n (swp Q k (k + 1))) := hdq.swap k (k + 1)
          have HPM : Aside ((swp Q k (k + 1)).Perm P) := (swp_perm (by omega) (by omega)).trans hperm
          have HNT : Aside (∀ t, nth (swp Q k (k + 1)) t = shU (nth P) a (k + 1) t) := fun t => shU_step hak (by omega) hsh t
          have WA : Aside _ := hgr
          have z1 : (0 : Int) ≤ (k : Int) := by omega
          have z2 : (k : Int) < (n : Int) := by omega
          have z3 : (0 : Int) ≤ (k : Int) + 1 := by omega
          have z4 : (k : Int) + 1 < (n : Int) := by omega
          have z5 : ((k : Int) + 1).toNat = k + 1 := by omega
          have ng : ¬ k = k + 1 := by omega
          clear hsh hdq hgr hperm
          generalize nth Q k = x at *
          generalize nth Q (k + 1) = y at *
          go_wp2_with fail
          go_region
          all_goals
            go_wp2_with fail
            go_roundw
            case rel => exact ⟨k + 1, swp Q k (k + 1), by go_num, by omega, by omega, HSW.out, HPM.out, HNT.out, grownBy_drew (grownBy_set (grownBy_set WA.out))⟩
            case measure => simp [intOf]; omega
        · have hkt : decide ((k : Int) < (i1 : Int)) = false := by simp; omega
          have hke : k = i1 := by omega
          subst hke
          have HSO : Aside (SortedOn cf Q a b ∧ SameOut Q P a b) := by
            have hm := HA.out
            have hk := HI1.out
            refine ⟨up_sorted HC.out (P := P) (i := i) (hm ▸ HM.out) (by omega) hjb (fun t h1 h2 => HLO.out.1 t (by omega) h2) (fun t h1 h2 => Int.not_lt.2 (HLO.out.2 t h1 h2)) (fun t => by rw [hsh t, hk]), fun t ht => ?_⟩
            rw [hsh t]; unfold shU
            rw [if_neg (by omega), if_neg (by omega)]
          go_wp2_with fail
          refine bodyPost_ret (results_none rfl _ _ _) rfl ?_
          exact ⟨rfl, Q, hdq, hperm, HSO.out.2, HSO.out.1, hgr⟩

set_option maxRecDepth 100000 in
set_option maxHeartbeats 16000000 in
/-- One place behind. -/
theorem symB_any (w0 : World) (base g cap n K : Nat) (cb : Array Value) (cf : Nat → Nat → Int) (hcmp : CmpOK w0 g n K cb cf) (hK : ∀ a w, (callFunc K a).run Tryd.prog w = .ok (.enter K a) w) (hc : Pre cf) (hn : n ≤ 1000)
    (w : World) (P : List Nat) (a m b : Nat) (hd : DataAt w base g cap n P) (hg : w0.grownBy w (some g)) (hM : Mrg cf P a m b) (hlt : ∀ x ∈ P, x < n) (hA : ¬ m = a + 1) (hB : b = m + 1) :
      Calls Tryd.prog 36 #[.slice (some ⟨g, 0, none⟩) n cap, .int .i64 a, .int .i64 m, .int .i64 b, .func (.func K) #[] cb] w fun e w' => e = .returned (.tuple #[]) ∧ ∃ P', DataAt w' base g cap n P' ∧ P'.Perm P ∧ SameOut P' P a b ∧ SortedOn cf P' a b ∧ w0.grownBy w' (some g) := by
  have ham := hM.am
  have hmb := hM.mb
  have hbl := hM.bl
  have hPl : P.length = n := hd.1
  have HCM : Aside _ := hcmp
  have HLT : Aside _ := hlt
  have HC : Aside _ := hc
  have HM : Aside _ := hM
  have hwa : IntKind.i64.wrap ((m : Int) - (a : Int)) = (m : Int) - (a : Int) := by rw [IntKind.wrap_i64]; omega
  have hwb : IntKind.i64.wrap ((b : Int) - (m : Int)) = (b : Int) - (m : Int) := by rw [IntKind.wrap_i64]; omega
  clear hcmp hlt hc hM
  have HB : Hid (b = m + 1) := hB
  have hBt : (b : Int) - (m : Int) = 1 := by omega
  have hAf : ((m : Int) - (a : Int) == 1) = false := by rw [beq_eq_false_iff_ne]; omega
  clear hB hA
  go_enter Tryd.func36, Tryd.ntmps36
  go_wp2_with fail
  go_loopw [14, 15] (fun vi vj wr => ∃ i j : Nat, vi = .int .i64 i ∧ vj = .int .i64 j ∧ a ≤ i ∧ i ≤ j ∧ j ≤ m ∧ (∀ k, a ≤ k → k < i → 0 ≤ cf (nth P m) (nth P k)) ∧ (∀ k, j ≤ k → k < m → cf (nth P m) (nth P k) < 0) ∧ DataAt wr base g cap n P ∧ w0.grownBy wr (some g)) (fun vi vj _ => (intOf vj).toNat - (intOf vi).toNat)
  case atStart => exact ⟨a, m, rfl, rfl, Nat.le_refl _, by omega, Nat.le_refl _, fun k h1 h2 => by omega, fun k h1 h2 => by omega, hd, hg⟩
  case round =>
    obtain ⟨i, j, rfl, rfl, hmi, hij, hjb, hlo, hhi, hdr, hgr⟩ := hrel
    clear hd hg
    have HLO : Aside _ := And.intro hlo hhi
    clear hlo hhi
    by_cases hlt : i < j
    · have hltt : decide ((i : Int) < (j : Int)) = true := by simp; omega
      obtain ⟨h, hh⟩ : ∃ h : Nat, ((i : Int) + (j : Int)) / 2 = (h : Int) := ⟨(i + j) / 2, by omega⟩
      have hih : i ≤ h := by omega
      have hhj : h < j := by omega
      have z1 : (h : Int) < (n : Int) := by omega
      have z2 : (m : Int) < (n : Int) := by omega
      have z3 : (0 : Int) ≤ (h : Int) := by omega
      have z4 : (0 : Int) ≤ (m : Int) := by omega
      by_cases hz : cf (nth P m) (nth P h) < 0
      · have hzb : decide (cf (nth P m) (nth P h) < 0) = true := by simpa using hz
        have HHI2 : Aside (∀ k, h ≤ k → k < m → cf (nth P m) (nth P k) < 0) := fun k h1 h2 => by
          by_cases c : k = h
          · rw [c]; exact hz
          · have := lt_trans' HC.out (.inl hz) (HM.out.s1 h k (by omega) (by omega) h2)
            rcases this with t | ⟨_, t⟩
            · exact t
            · have := HM.out.low k m (by omega) h2 (Nat.le_refl _) hmb; omega
        obtain ⟨c1, f1⟩ := hdr.cell (show m < n by omega)
        obtain ⟨c2, f2⟩ := hdr.cell (show h < n by omega)
        have hpx := nth_lt (List.Perm.refl _) HLT.out (show m < P.length by omega)
        have hqx := nth_lt (List.Perm.refl _) HLT.out (show h < P.length by omega)
        have cc1 : ∀ d os, (grow (redrawn wr d) os).cell? ⟨g, m, none⟩ = some (.int .i64 (nth P (m) : Int)) := fun d os => cell_regrown c1 d os
        have cc2 : ∀ d os, (grow (redrawn wr d) os).cell? ⟨g, h, none⟩ = some (.int .i64 (nth P (h) : Int)) := fun d os => cell_regrown c2 d os
        have hcl : Aside (∀ d os, Calls Tryd.prog K (#[.int .i64 (nth P (m) : Int), .int .i64 (nth P (h) : Int)] ++ cb) (grow (redrawn wr d) os) fun e w'' => e = .returned (.int .i64 (cf (nth P (m)) (nth P (h)))) ∧ Below (grow (redrawn wr d) os).heap.size (grow (redrawn wr d) os) w'') := fun d os => HCM.out _ (grownBy_below hgr (below_regrown ..)) _ _ hpx hqx
        clear c1 c2 f1 f2
        go_wp2_with fail
        refine wp_region_quiet_below (by kernel_rfl) (by kernel_rfl) ?_
        repeat (first | go_big_quiet_step (exact Calls.regrown_of (hcl.out _ _)) | quiet_step (exact Calls.regrown_of (hcl.out _ _)))
        refine wpQuiet_nil ?_
        rintro _ ⟨⟨dq, osq⟩, rfl⟩
        have hb := below_regrown wr dq osq
        generalize grow (redrawn wr dq) osq = w4 at hb ⊢
        have d4 := hdr.keep hb
        have g4 := grownBy_below hgr hb
        clear cc1 cc2 hcl hpx hqx hdr hgr hb
        go_wp2_with fail
        go_roundw
        case rel => exact ⟨i, h, rfl, rfl, hmi, hih, by omega, HLO.out.1, HHI2.out, d4, g4⟩
        case measure => simp [intOf]; omega
      · have hzb : decide (cf (nth P m) (nth P h) < 0) = false := by simpa using hz
        have HLO2 : Aside (∀ k, a ≤ k → k < h + 1 → 0 ≤ cf (nth P m) (nth P k)) := fun k h1 h2 => by
          by_cases c : k = h
          · rw [c]; omega
          · apply Int.not_lt.1
            intro hk
            have q0 : lt cf (nth P h) (nth P m) := lt_not HC.out (HM.out.low h m (by omega) (by omega) (Nat.le_refl _) hmb) hz
            have q1 := lt_trans' HC.out (HM.out.s1 k h h1 (by omega) (by omega)) q0
            exact lt_asymm' HC.out q1 (.inl hk)
        obtain ⟨c1, f1⟩ := hdr.cell (show m < n by omega)
        obtain ⟨c2, f2⟩ := hdr.cell (show h < n by omega)
        have hpx := nth_lt (List.Perm.refl _) HLT.out (show m < P.length by omega)
        have hqx := nth_lt (List.Perm.refl _) HLT.out (show h < P.length by omega)
        have cc1 : ∀ d os, (grow (redrawn wr d) os).cell? ⟨g, m, none⟩ = some (.int .i64 (nth P (m) : Int)) := fun d os => cell_regrown c1 d os
        have cc2 : ∀ d os, (grow (redrawn wr d) os).cell? ⟨g, h, none⟩ = some (.int .i64 (nth P (h) : Int)) := fun d os => cell_regrown c2 d os
        have hcl : Aside (∀ d os, Calls Tryd.prog K (#[.int .i64 (nth P (m) : Int), .int .i64 (nth P (h) : Int)] ++ cb) (grow (redrawn wr d) os) fun e w'' => e = .returned (.int .i64 (cf (nth P (m)) (nth P (h)))) ∧ Below (grow (redrawn wr d) os).heap.size (grow (redrawn wr d) os) w'') := fun d os => HCM.out _ (grownBy_below hgr (below_regrown ..)) _ _ hpx hqx
        clear c1 c2 f1 f2
        go_wp2_with fail
        refine wp_region_quiet_below (by kernel_rfl) (by kernel_rfl) ?_
        repeat (first | go_big_quiet_step (exact Calls.regrown_of (hcl.out _ _)) | quiet_step (exact Calls.regrown_of (hcl.out _ _)))
        refine wpQuiet_nil ?_
        rintro _ ⟨⟨dq, osq⟩, rfl⟩
        have hb := below_regrown wr dq osq
        generalize grow (redrawn wr dq) osq = w4 at hb ⊢
        have d4 := hdr.keep hb
        have g4 := grownBy_below hgr hb
        clear cc1 cc2 hcl hpx hqx hdr hgr hb
        go_wp2_with fail
        go_roundw
        case rel => exact ⟨h + 1, j, by go_num, rfl, by omega, by omega, hjb, HLO2.out, HLO.out.2, d4, g4⟩
        case measure => simp [intOf]; omega
    · have hltt : decide ((i : Int) < (j : Int)) = false := by simp; omega
      have hij' : i = j := by omega
      subst hij'
      go_wp2_with fail
      go_loopw [17] (fun vk wr => ∃ (k : Nat) (Q : List Nat), vk = .int .i64 k ∧ i ≤ k ∧ k ≤ m ∧ DataAt wr base g cap n Q ∧ Q.Perm P ∧ (∀ t, nth Q t = shD (nth P) m k t) ∧ w0.grownBy wr (some g)) (fun vk _ => (intOf vk).toNat)
      case atStart => exact ⟨m, P, rfl, hjb, Nat.le_refl _, hdr, List.Perm.refl _, fun t => (shD_zero _ _ _).symm, hgr⟩
      case round =>
        clear hdr hgr
        obtain ⟨k, Q, rfl, hak, hki, hdq, hperm, hsh, hgr⟩ := hrel
        have hQl := hdq.1
        by_cases hk1 : i < k
        · have hkt : decide ((i : Int) < (k : Int)) = true := by simp; omega
          obtain ⟨q, hq⟩ : ∃ q, k = q + 1 := ⟨k - 1, by omega⟩
          have e1 : IntKind.i64.wrap ((k : Int) - 1) = (q : Int) := by rw [IntKind.wrap_i64]; omega
          have e2 : (k : Int) - 1 = (q : Int) := by omega
          obtain ⟨c1, f1⟩ := hdq.cell (show k < n by omega)
          obtain ⟨c2, f2⟩ := hdq.cell (show q < n by omega)
          have HSW : Aside (DataAt ((wr.setCell ⟨g, k, none⟩ (.int .i64 (nth Q q : Int))).setCell ⟨g, q, none⟩ (.int .i64 (nth Q k : Int))) base g cap n (swp Q k q)) := hdq.swap k q
          have HPM : Aside ((swp Q k q).Perm P) := (swp_perm (by omega) (by omega)).trans hperm
          have HNT : Aside (∀ t, nth (swp Q k q) t = shD (nth P) m q t) := fun t => by
            subst hq; exact shD_step hki (by omega) hsh t
          have WA : Aside _ := hgr
          have z1 : (0 : Int) ≤ (k : Int) := by omega
          have z2 : (k : Int) < (n : Int) := by omega
          have z3 : (0 : Int) ≤ (q : Int) := by omega
          have z4 : (q : Int) < (n : Int) := by omega
          have ng : ¬ k = q := by omega
          have iq : i ≤ q := by omega
          have qm : q ≤ m := by omega
          have qk : q < k := by omega
          clear hsh hdq hgr hperm hq
          generalize nth Q k = x at *
          generalize nth Q q = y at *
          go_wp2_with fail
          go_region
          all_goals
            go_wp2_with fail
            go_roundw
            case rel => exact ⟨q, swp Q k q, by first | rfl | go_num, iq, qm, HSW.out, HPM.out, HNT.out, grownBy_drew (grownBy_set (grownBy_set WA.out))⟩
            case measure => simp [intOf]; omega
        · have hkt : decide ((i : Int) < (k : Int)) = false := by simp; omega
          have hke : k = i := by omega
          subst hke
          have HSO : Aside (SortedOn cf Q a b ∧ SameOut Q P a b) := by
            have hm := HB.out
            refine ⟨?_, fun t ht => ?_⟩
            · rw [hm]
              exact down_sorted HC.out (P := P) (hm ▸ HM.out) hmi hjb (fun t h1 h2 => Int.not_lt.2 (HLO.out.1 t h1 h2)) HLO.out.2 hsh
            · rw [hsh t]; unfold shD
              rw [if_neg (by omega), if_neg (by omega)]
          go_wp2_with fail
          refine bodyPost_ret (results_none rfl _ _ _) rfl ?_
          exact ⟨rfl, Q, hdq, hperm, HSO.out.2, HSO.out.1, hgr⟩

end Go.Proofs.YtalfeggddfpgeaaDoor
