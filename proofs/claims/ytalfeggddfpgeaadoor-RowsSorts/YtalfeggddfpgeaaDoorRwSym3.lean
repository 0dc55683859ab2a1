/- The library's merge in place: the third way, and the whole. -/
import Derived.Test.YtalfeggddfpgeaaDoorRwSym2
namespace Go.Proofs.YtalfeggddfpgeaaDoor
open Go.RowKit Go.Sort

/-- From the halves, each in order, to the whole. -/
theorem halves_end {cf : Nat → Nat → Int} {P Q Q1 Q2 : List Nat} {a s mid e b : Nat} (H : Halves cf Q a s mid e b) (ham : a ≤ mid) (hmb : mid ≤ b) (hbl : b ≤ Q.length) (hn : Q.Nodup) (o0 : SameOut Q P a b)
    (p1 : Q1.Perm Q) (o1 : SameOut Q1 Q a mid) (s1 : SortedOn cf Q1 a mid) (p2 : Q2.Perm Q1) (o2 : SameOut Q2 Q1 mid b) (s2 : SortedOn cf Q2 mid b) : SameOut Q2 P a b ∧ SortedOn cf Q2 a b := by
  have hl1 := p1.length_eq
  refine ⟨fun k hk => ?_, sorted_join (sorted_out s1 o2 (.inl (Nat.le_refl _))) s2 fun k l h1 h2 h3 h4 => ?_⟩
  · rw [o2 k (by omega), o1 k (by omega), o0 k hk]
  · rw [o2 k (by omega)]
    obtain ⟨k', k1, k2, e1⟩ := same_in p1 hn (by omega) o1 h1 h2
    obtain ⟨l', l1, l2, e2⟩ := same_in p2 (p1.symm.nodup hn) (by omega) o2 h3 h4
    rw [e1, e2, o1 l' (by omega)]
    exact H.x k' l' k1 k2 l1 l2
theorem rot_id {f : Nat → Nat} {s m e : Nat} (h1 : s ≤ m) (h2 : m ≤ e) (h : ¬ (s < m ∧ m < e)) (k : Nat) : f k = rotR f s m e k := by
  unfold rotR
  repeat' split
  all_goals first | (exfalso; omega) | rfl | (congr 1 <;> omega)

set_option maxRecDepth 100000 in
set_option maxHeartbeats 32000000 in
theorem symC_any (w0 : World) (base g cap n K : Nat) (cb : Array Value) (cf : Nat → Nat → Int) (hcmp : CmpOK w0 g n K cb cf) (hK : ∀ a w, (callFunc K a).run Tryd.prog w = .ok (.enter K a) w) (hc : Pre cf) (hn : n ≤ 1000)
    (w : World) (P : List Nat) (a m b : Nat) (hd : DataAt w base g cap n P) (hg : w0.grownBy w (some g)) (hM : Mrg cf P a m b) (hnd : P.Nodup) (hlt : ∀ x ∈ P, x < n) (hA : ¬ m = a + 1) (hB : ¬ b = m + 1)
    (ih : ∀ (w : World) (P : List Nat) (a' m' b' : Nat), b' - a' < b - a → DataAt w base g cap n P → w0.grownBy w (some g) → Mrg cf P a' m' b' → P.Nodup → (∀ x ∈ P, x < n) →
      Calls Tryd.prog 36 #[.slice (some ⟨g, 0, none⟩) n cap, .int .i64 a', .int .i64 m', .int .i64 b', .func (.func K) #[] cb] w fun e w' => e = .returned (.tuple #[]) ∧ ∃ P', DataAt w' base g cap n P' ∧ P'.Perm P ∧ SameOut P' P a' b' ∧ SortedOn cf P' a' b' ∧ w0.grownBy w' (some g)) :
      Calls Tryd.prog 36 #[.slice (some ⟨g, 0, none⟩) n cap, .int .i64 a, .int .i64 m, .int .i64 b, .func (.func K) #[] cb] w fun e w' => e = .returned (.tuple #[]) ∧ ∃ P', DataAt w' base g cap n P' ∧ P'.Perm P ∧ SameOut P' P a b ∧ SortedOn cf P' a b ∧ w0.grownBy w' (some g) := by
  have ham := hM.am
  have hmb := hM.mb
  have hbl := hM.bl
  have hPl : P.length = n := hd.1
  have HCM : Aside _ := hcmp
  have HLT : Aside _ := hlt
  have HC : Aside _ := hc
  have HM : Aside _ := hM
  have HND : Aside _ := hnd
  have IH : Aside _ := ih
  have hwa : IntKind.i64.wrap ((m : Int) - (a : Int)) = (m : Int) - (a : Int) := by rw [IntKind.wrap_i64]; omega
  have hwb : IntKind.i64.wrap ((b : Int) - (m : Int)) = (b : Int) - (m : Int) := by rw [IntKind.wrap_i64]; omega
  have hAf : ((m : Int) - (a : Int) == 1) = false := by rw [beq_eq_false_iff_ne]; omega
  have hBf : ((b : Int) - (m : Int) == 1) = false := by rw [beq_eq_false_iff_ne]; omega
  obtain ⟨mid, hmid⟩ : ∃ mid : Nat, ((a : Int) + (b : Int)) / 2 = (mid : Int) := ⟨(a + b) / 2, by omega⟩
  have m1 : 2 * mid ≤ a + b := by omega
  have m2 : a + b < 2 * mid + 2 := by omega
  obtain ⟨NN, hNN⟩ : ∃ NN : Nat, (mid : Int) + (m : Int) = (NN : Int) := ⟨mid + m, by omega⟩
  have nnE : NN = mid + m := by omega
  have HNN : Hid (NN = mid + m) := nnE
  obtain ⟨p, hp⟩ : ∃ p : Nat, (NN : Int) - 1 = (p : Int) := ⟨NN - 1, by omega⟩
  have pE : p = mid + m - 1 := by omega
  have HP : Hid (p = mid + m - 1) := pE
  have hwp : IntKind.i64.wrap ((NN : Int) - 1) = (p : Int) := by rw [IntKind.wrap_i64]; omega
  obtain ⟨s0, r0, hsr, hs0⟩ : ∃ s0 r0 : Nat, ((mid < m ∧ s0 = mid + m - b ∧ r0 = mid) ∨ (m ≤ mid ∧ s0 = a ∧ r0 = m)) ∧ (mid < m → (NN : Int) - (b : Int) = (s0 : Int)) := by
    by_cases c : mid < m
    · exact ⟨mid + m - b, mid, .inl ⟨c, rfl, rfl⟩, fun _ => by omega⟩
    · exact ⟨a, m, .inr ⟨by omega, rfl, rfl⟩, fun h => absurd h c⟩
  have HSR : Aside _ := hsr
  have hsr1 : s0 ≤ r0 := by omega
  have IDX : Aside (∀ c, s0 ≤ c → c < r0 → a ≤ c ∧ c < m ∧ m ≤ mid + m - 1 - c ∧ mid + m - 1 - c < b) := fun c h1 h2 => by omega
  clear hcmp hlt hc hM hnd ih hA hB nnE pE
  by_cases hmm : mid < m
  · have hgt : decide ((mid : Int) < (m : Int)) = true := by simp; omega
    have hs0' := hs0 hmm
    have hws : IntKind.i64.wrap ((NN : Int) - (b : Int)) = (s0 : Int) := by rw [IntKind.wrap_i64]; omega
    have hr0 : mid = r0 := by omega
    have HR0 : Hid (mid = r0) := hr0
    clear hs0 hsr hr0
    go_enter Tryd.func36, Tryd.ntmps36
    go_wp2_with fail
    go_loopw [20, 21] (fun vi vj wr => ∃ i j : Nat, vi = .int .i64 i ∧ vj = .int .i64 j ∧ s0 ≤ i ∧ i ≤ j ∧ j ≤ r0 ∧ (∀ c, s0 ≤ c → c < i → 0 ≤ cf (nth P (mid + m - 1 - c)) (nth P c)) ∧ (∀ c, j ≤ c → c < r0 → cf (nth P (mid + m - 1 - c)) (nth P c) < 0) ∧ DataAt wr base g cap n P ∧ w0.grownBy wr (some g)) (fun vi vj _ => (intOf vj).toNat - (intOf vi).toNat)
    case atStart => exact ⟨s0, r0, by first | rfl | go_num, by first | rfl | rw [HR0.out], Nat.le_refl _, hsr1, Nat.le_refl _, fun k h1 h2 => by omega, fun k h1 h2 => by omega, hd, hg⟩
    case round =>
      obtain ⟨i, j, rfl, rfl, hmi, hij, hjb, hlo, hhi, hdr, hgr⟩ := hrel
      clear hd hg
      have HLO : Aside _ := And.intro hlo hhi
      clear hlo hhi
      by_cases hlt : i < j
      · have hltt : decide ((i : Int) < (j : Int)) = true := by simp; omega
        obtain ⟨h, hh⟩ : ∃ h : Nat, ((i : Int) + (j : Int)) / 2 = (h : Int) := ⟨(i + j) / 2, by omega⟩
        have hih : i ≤ h := by omega
        have hhj : h < j := by omega
        obtain ⟨ix1, ix2, ix3, ix4⟩ := IDX.out h (by omega) (by omega)
        have pv := HP.out
        obtain ⟨q, hq⟩ : ∃ q : Nat, (p : Int) - (h : Int) = (q : Int) := ⟨p - h, by omega⟩
        have qE : q = mid + m - 1 - h := by omega
        have hwq : IntKind.i64.wrap ((p : Int) - (h : Int)) = (q : Int) := by rw [IntKind.wrap_i64]; omega
        have z1 : (h : Int) < (n : Int) := by omega
        have z2 : (q : Int) < (n : Int) := by omega
        have z3 : (0 : Int) ≤ (h : Int) := by omega
        have z4 : (0 : Int) ≤ (q : Int) := by omega
        have qm : m ≤ q := by omega
        have qb : q < b := by omega
        have hn1 : h < n := by omega
        have qn1 : q < n := by omega
        have LOWH : Aside (nth P h < nth P q) := HM.out.low h q ix1 ix2 qm qb
        have HQ : Hid (mid + m - 1 - h = q) := qE.symm
        clear pv qE
        by_cases hz : cf (nth P q) (nth P h) < 0
        · have hzb : decide (cf (nth P q) (nth P h) < 0) = true := by simpa using hz
          have HHI2 : Aside (∀ c, h ≤ c → c < r0 → cf (nth P (mid + m - 1 - c)) (nth P c) < 0) := fun c h1 h2 => by
            by_cases cc : c = h
            · rw [cc, HQ.out]; exact hz
            · by_cases cj : j ≤ c
              · exact HLO.out.2 c cj h2
              · obtain ⟨x1, x2, x3, x4⟩ := IDX.out c (by omega) h2
                have e1 : lt cf (nth P (mid + m - 1 - c)) (nth P q) := HM.out.s2 _ _ x3 (by have := HQ.out; omega) qb
                have e2 := lt_trans' HC.out e1 (.inl hz)
                have e3 := lt_trans' HC.out e2 (HM.out.s1 h c ix1 (by omega) x2)
                rcases e3 with t | ⟨_, t⟩
                · exact t
                · have := HM.out.low c (mid + m - 1 - c) x1 x2 x3 x4; omega
          obtain ⟨c1, f1⟩ := hdr.cell (show q < n by omega)
          obtain ⟨c2, f2⟩ := hdr.cell (show h < n by omega)
          have hpx := nth_lt (List.Perm.refl _) HLT.out (show q < P.length by omega)
          have hqx := nth_lt (List.Perm.refl _) HLT.out (show h < P.length by omega)
          have cc1 : ∀ d os, (grow (redrawn wr d) os).cell? ⟨g, q, none⟩ = some (.int .i64 (nth P (q) : Int)) := fun d os => cell_regrown c1 d os
          have cc2 : ∀ d os, (grow (redrawn wr d) os).cell? ⟨g, h, none⟩ = some (.int .i64 (nth P (h) : Int)) := fun d os => cell_regrown c2 d os
          have hcl : Aside (∀ d os, Calls Tryd.prog K (#[.int .i64 (nth P (q) : Int), .int .i64 (nth P (h) : Int)] ++ cb) (grow (redrawn wr d) os) fun e w'' => e = .returned (.int .i64 (cf (nth P (q)) (nth P (h)))) ∧ Below (grow (redrawn wr d) os).heap.size (grow (redrawn wr d) os) w'') := fun d os => HCM.out _ (grownBy_below hgr (below_regrown ..)) _ _ hpx hqx
          clear c1 c2 f1 f2
          go_wp2_with fail
          refine wp_region_quiet_below (by kernel_rfl) (by kernel_rfl) ?_
          repeat (first | go_big_quiet_step (exact Calls.regrown_of (hcl.out _ _)) | quiet_step (exact Calls.regrown_of (hcl.out _ _)))
          refine wpQuiet_nil ?_
          rintro _ ⟨⟨dq, osq⟩, rfl⟩
          have hb := below_regrown wr dq osq
          generalize grow (redrawn wr dq) osq = w4 at hb ⊢
          have d4 := hdr.keep hb
          have g4 := grownBy_below hgr hb
          clear cc1 cc2 hcl hpx hqx hdr hgr hb
          go_wp2_with fail
          go_roundw
          case rel => exact ⟨i, h, rfl, rfl, hmi, hih, by omega, HLO.out.1, HHI2.out, d4, g4⟩
          case measure => simp [intOf]; omega
        · have hzb : decide (cf (nth P q) (nth P h) < 0) = false := by simpa using hz
          have HLO2 : Aside (∀ c, s0 ≤ c → c < h + 1 → 0 ≤ cf (nth P (mid + m - 1 - c)) (nth P c)) := fun c h1 h2 => by
            by_cases cc : c = h
            · rw [cc, HQ.out]; omega
            · by_cases cj : c < i
              · exact HLO.out.1 c h1 cj
              · obtain ⟨x1, x2, x3, x4⟩ := IDX.out c h1 (by omega)
                apply Int.not_lt.1
                intro hk
                have e0 : lt cf (nth P h) (nth P q) := lt_not HC.out LOWH.out hz
                have e1 := lt_trans' HC.out (HM.out.s1 c h x1 (by omega) ix2) e0
                have e2 := lt_trans' HC.out e1 (HM.out.s2 q (mid + m - 1 - c) qm (by have := HQ.out; omega) x4)
                exact lt_asymm' HC.out e2 (.inl hk)
          obtain ⟨c1, f1⟩ := hdr.cell (show q < n by omega)
          obtain ⟨c2, f2⟩ := hdr.cell (show h < n by omega)
          have hpx := nth_lt (List.Perm.refl _) HLT.out (show q < P.length by omega)
          have hqx := nth_lt (List.Perm.refl _) HLT.out (show h < P.length by omega)
          have cc1 : ∀ d os, (grow (redrawn wr d) os).cell? ⟨g, q, none⟩ = some (.int .i64 (nth P (q) : Int)) := fun d os => cell_regrown c1 d os
          have cc2 : ∀ d os, (grow (redrawn wr d) os).cell? ⟨g, h, none⟩ = some (.int .i64 (nth P (h) : Int)) := fun d os => cell_regrown c2 d os
          have hcl : Aside (∀ d os, Calls Tryd.prog K (#[.int .i64 (nth P (q) : Int), .int .i64 (nth P (h) : Int)] ++ cb) (grow (redrawn wr d) os) fun e w'' => e = .returned (.int .i64 (cf (nth P (q)) (nth P (h)))) ∧ Below (grow (redrawn wr d) os).heap.size (grow (redrawn wr d) os) w'') := fun d os => HCM.out _ (grownBy_below hgr (below_regrown ..)) _ _ hpx hqx
          clear c1 c2 f1 f2
          go_wp2_with fail
          refine wp_region_quiet_below (by kernel_rfl) (by kernel_rfl) ?_
          repeat (first | go_big_quiet_step (exact Calls.regrown_of (hcl.out _ _)) | quiet_step (exact Calls.regrown_of (hcl.out _ _)))
          refine wpQuiet_nil ?_
          rintro _ ⟨⟨dq, osq⟩, rfl⟩
          have hb := below_regrown wr dq osq
          generalize grow (redrawn wr dq) osq = w4 at hb ⊢
          have d4 := hdr.keep hb
          have g4 := grownBy_below hgr hb
          clear cc1 cc2 hcl hpx hqx hdr hgr hb
          go_wp2_with fail
          go_roundw
          case rel => exact ⟨h + 1, j, by go_num, rfl, by omega, by omega, hjb, HLO2.out, HLO.out.2, d4, g4⟩
          case measure => simp [intOf]; omega
      · have hltt : decide ((i : Int) < (j : Int)) = false := by simp; omega
        have hij' : i = j := by omega
        subst hij'
        obtain ⟨t1, t2, t3, t4, t5, t6, t7⟩ := search_end HC.out HM.out m1 m2 HSR.out hmi hjb (fun c h1 h2 => Int.not_lt.2 (HLO.out.1 c h1 h2)) HLO.out.2
        obtain ⟨e, he⟩ : ∃ e : Nat, (NN : Int) - (i : Int) = (e : Int) := ⟨NN - i, by have := HNN.out; omega⟩
        have eE : e = mid + m - i := by have := HNN.out; omega
        have hwe : IntKind.i64.wrap ((NN : Int) - (i : Int)) = (e : Int) := by rw [IntKind.wrap_i64]; omega
        rw [← eE] at t3 t4 t6 t7
        have T67 : Aside _ := And.intro t6 t7
        have HE : Hid (e = mid + m - i) := eE
        clear t6 t7 eE HLO
        by_cases hr : i < m ∧ m < e
        · have r1 : decide ((i : Int) < (m : Int)) = true := by simp; omega
          have r2 : decide ((m : Int) < (e : Int)) = true := by simp; omega
          go_wp2_with fail
          refine (rotate_any _ base g cap n i m e _ P ⟨K, cb, rfl⟩ hdr hn hr.1 hr.2 (by omega)).mono ?_
          rintro e9 w5 ⟨rfl, Q, dq, pq, rq, gq⟩
          have gq' := grownBy_tr hgr gq
          clear gq hgr hdr r1 r2
          have HHV : Aside (Halves cf Q a i mid e b) := halves HM.out pq.length_eq t1 t2 t3 t4 HE.out t5 T67.out.1 T67.out.2 rq
          have O0 : Aside (SameOut Q P a b) := fun k hk => by
            rw [rq k]; unfold rotR; rw [if_neg (by have := HE.out; omega), if_neg (by have := HE.out; omega)]
          have ndQ : Aside Q.Nodup := pq.symm.nodup HND.out
          have ltQ : Aside (∀ x ∈ Q, x < n) := fun x hx => HLT.out x (pq.mem_iff.1 hx)
          have PQ : Aside (Q.Perm P) := pq
          have hQl : Q.length = n := dq.1
          have em : a ≤ mid := by omega
          have mb2 : mid ≤ b := by omega
          clear rq T67 pq
          by_cases c1 : a < i ∧ i < mid
          · have u1 : decide ((a : Int) < (i : Int)) = true := by simp; omega
            have u2 : decide ((i : Int) < (mid : Int)) = true := by simp; omega
            go_wp2_with fail
            all_goals
              refine (IH.out _ Q a i mid (by omega) dq gq' (HHV.out.h1 c1) ndQ.out ltQ.out).mono ?_
              rintro e8 w6 ⟨rfl, Q1, dq1, p1, o1, s1, g1⟩
              clear dq gq' u1 u2
              by_cases c2 : mid < e ∧ e < b
              · have x1 : decide ((mid : Int) < (e : Int)) = true := by simp; omega
                have x2 : decide ((e : Int) < (b : Int)) = true := by simp; omega
                have M2 : Aside (Mrg cf Q1 mid e b) := (HHV.out.h2 c2).out p1.length_eq o1 (.inr (Nat.le_refl _))
                have P1 : Aside _ := And.intro p1 (And.intro o1 s1)
                clear p1 o1 s1
                go_wp2_with fail
                all_goals
                  refine (IH.out _ Q1 mid e b (by omega) dq1 g1 M2.out (P1.out.1.symm.nodup ndQ.out) (fun x hx => ltQ.out x (P1.out.1.mem_iff.1 hx))).mono ?_
                  rintro e7 w7 ⟨rfl, Q2, dq2, p2, o2, s2, g2⟩
                  have HF := halves_end HHV.out em mb2 (by omega) ndQ.out O0.out P1.out.1 P1.out.2.1 P1.out.2.2 p2 o2 s2
                  have PF := (p2.trans P1.out.1).trans PQ.out
                  clear p2 o2 s2 dq1 g1 x1 x2
                  go_wp2_with fail
                  all_goals
                    go_end0
                    exact ⟨rfl, Q2, dq2, PF, HF.1, HF.2, g2⟩
              · have S2 : SortedOn cf Q1 mid b := sorted_out (HHV.out.h2' c2) o1 (.inr (Nat.le_refl _))
                have HF := halves_end HHV.out em mb2 (by omega) ndQ.out O0.out p1 o1 s1 (List.Perm.refl Q1) (fun _ _ => rfl) S2
                have PF := p1.trans PQ.out
                clear p1 o1 s1 S2
                by_cases cd : mid < e
                · have x1 : decide ((mid : Int) < (e : Int)) = true := by simp; omega
                  have x2 : decide ((e : Int) < (b : Int)) = false := by simp; omega
                  go_wp2_with fail
                  all_goals
                    go_end0
                    exact ⟨rfl, Q1, dq1, PF, HF.1, HF.2, g1⟩
                · have x1 : decide ((mid : Int) < (e : Int)) = false := by simp; omega
                  go_wp2_with fail
                  all_goals
                    go_end0
                    exact ⟨rfl, Q1, dq1, PF, HF.1, HF.2, g1⟩
          · have S1 : Aside (SortedOn cf Q a mid) := HHV.out.h1' c1
            obtain ⟨Q1, hQ1⟩ : ∃ Q1, Q1 = Q := ⟨_, rfl⟩
            have dq1 : DataAt w5 base g cap n Q1 := by rw [hQ1]; exact dq
            have p1 : Q1.Perm Q := by rw [hQ1]
            have o1 : SameOut Q1 Q a mid := fun k _ => by rw [hQ1]
            have s1 : SortedOn cf Q1 a mid := by rw [hQ1]; exact S1.out
            have g1 := gq'
            clear dq gq' hQ1
            by_cases cc : a < i
            · have u1 : decide ((a : Int) < (i : Int)) = true := by simp; omega
              have u2 : decide ((i : Int) < (mid : Int)) = false := by simp; omega
              by_cases c2 : mid < e ∧ e < b
              · have x1 : decide ((mid : Int) < (e : Int)) = true := by simp; omega
                have x2 : decide ((e : Int) < (b : Int)) = true := by simp; omega
                have M2 : Aside (Mrg cf Q1 mid e b) := (HHV.out.h2 c2).out p1.length_eq o1 (.inr (Nat.le_refl _))
                have P1 : Aside _ := And.intro p1 (And.intro o1 s1)
                clear p1 o1 s1
                go_wp2_with fail
                all_goals
                  refine (IH.out _ Q1 mid e b (by omega) dq1 g1 M2.out (P1.out.1.symm.nodup ndQ.out) (fun x hx => ltQ.out x (P1.out.1.mem_iff.1 hx))).mono ?_
                  rintro e7 w7 ⟨rfl, Q2, dq2, p2, o2, s2, g2⟩
                  have HF := halves_end HHV.out em mb2 (by omega) ndQ.out O0.out P1.out.1 P1.out.2.1 P1.out.2.2 p2 o2 s2
                  have PF := (p2.trans P1.out.1).trans PQ.out
                  clear p2 o2 s2 dq1 g1 x1 x2
                  go_wp2_with fail
                  all_goals
                    go_end0
                    exact ⟨rfl, Q2, dq2, PF, HF.1, HF.2, g2⟩
              · have S2 : SortedOn cf Q1 mid b := sorted_out (HHV.out.h2' c2) o1 (.inr (Nat.le_refl _))
                have HF := halves_end HHV.out em mb2 (by omega) ndQ.out O0.out p1 o1 s1 (List.Perm.refl Q1) (fun _ _ => rfl) S2
                have PF := p1.trans PQ.out
                clear p1 o1 s1 S2
                by_cases cd : mid < e
                · have x1 : decide ((mid : Int) < (e : Int)) = true := by simp; omega
                  have x2 : decide ((e : Int) < (b : Int)) = false := by simp; omega
                  go_wp2_with fail
                  all_goals
                    go_end0
                    exact ⟨rfl, Q1, dq1, PF, HF.1, HF.2, g1⟩
                · have x1 : decide ((mid : Int) < (e : Int)) = false := by simp; omega
                  go_wp2_with fail
                  all_goals
                    go_end0
                    exact ⟨rfl, Q1, dq1, PF, HF.1, HF.2, g1⟩
            · have u1 : decide ((a : Int) < (i : Int)) = false := by simp; omega
              by_cases c2 : mid < e ∧ e < b
              · have x1 : decide ((mid : Int) < (e : Int)) = true := by simp; omega
                have x2 : decide ((e : Int) < (b : Int)) = true := by simp; omega
                have M2 : Aside (Mrg cf Q1 mid e b) := (HHV.out.h2 c2).out p1.length_eq o1 (.inr (Nat.le_refl _))
                have P1 : Aside _ := And.intro p1 (And.intro o1 s1)
                clear p1 o1 s1
                go_wp2_with fail
                all_goals
                  refine (IH.out _ Q1 mid e b (by omega) dq1 g1 M2.out (P1.out.1.symm.nodup ndQ.out) (fun x hx => ltQ.out x (P1.out.1.mem_iff.1 hx))).mono ?_
                  rintro e7 w7 ⟨rfl, Q2, dq2, p2, o2, s2, g2⟩
                  have HF := halves_end HHV.out em mb2 (by omega) ndQ.out O0.out P1.out.1 P1.out.2.1 P1.out.2.2 p2 o2 s2
                  have PF := (p2.trans P1.out.1).trans PQ.out
                  clear p2 o2 s2 dq1 g1 x1 x2
                  go_wp2_with fail
                  all_goals
                    go_end0
                    exact ⟨rfl, Q2, dq2, PF, HF.1, HF.2, g2⟩
              · have S2 : SortedOn cf Q1 mid b := sorted_out (HHV.out.h2' c2) o1 (.inr (Nat.le_refl _))
                have HF := halves_end HHV.out em mb2 (by omega) ndQ.out O0.out p1 o1 s1 (List.Perm.refl Q1) (fun _ _ => rfl) S2
                have PF := p1.trans PQ.out
                clear p1 o1 s1 S2
                by_cases cd : mid < e
                · have x1 : decide ((mid : Int) < (e : Int)) = true := by simp; omega
                  have x2 : decide ((e : Int) < (b : Int)) = false := by simp; omega
                  go_wp2_with fail
                  all_goals
                    go_end0
                    exact ⟨rfl, Q1, dq1, PF, HF.1, HF.2, g1⟩
                · have x1 : decide ((mid : Int) < (e : Int)) = false := by simp; omega
                  go_wp2_with fail
                  all_goals
                    go_end0
                    exact ⟨rfl, Q1, dq1, PF, HF.1, HF.2, g1⟩
        · have r12 : (decide ((i : Int) < (m : Int)) && decide ((m : Int) < (e : Int))) = false := by rw [Bool.and_eq_false_iff]; simp; omega
          obtain ⟨Q, hQ⟩ : ∃ Q, Q = P := ⟨_, rfl⟩
          have dq : DataAt wr base g cap n Q := by rw [hQ]; exact hdr
          have pq : Q.Perm P := by rw [hQ]
          have rq : ∀ k, nth Q k = rotR (nth P) i m e k := fun k => by rw [hQ]; exact rot_id t2 t3 hr k
          have gq' := hgr
          clear hgr hdr hQ
          by_cases rr : i < m
          · have r1 : decide ((i : Int) < (m : Int)) = true := by simp; omega
            have r2 : decide ((m : Int) < (e : Int)) = false := by simp; omega
            clear r12
            have HHV : Aside (Halves cf Q a i mid e b) := halves HM.out pq.length_eq t1 t2 t3 t4 HE.out t5 T67.out.1 T67.out.2 rq
            have O0 : Aside (SameOut Q P a b) := fun k hk => by
              rw [rq k]; unfold rotR; rw [if_neg (by have := HE.out; omega), if_neg (by have := HE.out; omega)]
            have ndQ : Aside Q.Nodup := pq.symm.nodup HND.out
            have ltQ : Aside (∀ x ∈ Q, x < n) := fun x hx => HLT.out x (pq.mem_iff.1 hx)
            have PQ : Aside (Q.Perm P) := pq
            have hQl : Q.length = n := dq.1
            have em : a ≤ mid := by omega
            have mb2 : mid ≤ b := by omega
            clear rq T67 pq
            by_cases c1 : a < i ∧ i < mid
            · have u1 : decide ((a : Int) < (i : Int)) = true := by simp; omega
              have u2 : decide ((i : Int) < (mid : Int)) = true := by simp; omega
              go_wp2_with fail
              all_goals
                refine (IH.out _ Q a i mid (by omega) dq gq' (HHV.out.h1 c1) ndQ.out ltQ.out).mono ?_
                rintro e8 w6 ⟨rfl, Q1, dq1, p1, o1, s1, g1⟩
                clear dq gq' u1 u2
                by_cases c2 : mid < e ∧ e < b
                · have x1 : decide ((mid : Int) < (e : Int)) = true := by simp; omega
                  have x2 : decide ((e : Int) < (b : Int)) = true := by simp; omega
                  have M2 : Aside (Mrg cf Q1 mid e b) := (HHV.out.h2 c2).out p1.length_eq o1 (.inr (Nat.le_refl _))
                  have P1 : Aside _ := And.intro p1 (And.intro o1 s1)
                  clear p1 o1 s1
                  go_wp2_with fail
                  all_goals
                    refine (IH.out _ Q1 mid e b (by omega) dq1 g1 M2.out (P1.out.1.symm.nodup ndQ.out) (fun x hx => ltQ.out x (P1.out.1.mem_iff.1 hx))).mono ?_
                    rintro e7 w7 ⟨rfl, Q2, dq2, p2, o2, s2, g2⟩
                    have HF := halves_end HHV.out em mb2 (by omega) ndQ.out O0.out P1.out.1 P1.out.2.1 P1.out.2.2 p2 o2 s2
                    have PF := (p2.trans P1.out.1).trans PQ.out
                    clear p2 o2 s2 dq1 g1 x1 x2
                    go_wp2_with fail
                    all_goals
                      go_end0
                      exact ⟨rfl, Q2, dq2, PF, HF.1, HF.2, g2⟩
                · have S2 : SortedOn cf Q1 mid b := sorted_out (HHV.out.h2' c2) o1 (.inr (Nat.le_refl _))
                  have HF := halves_end HHV.out em mb2 (by omega) ndQ.out O0.out p1 o1 s1 (List.Perm.refl Q1) (fun _ _ => rfl) S2
                  have PF := p1.trans PQ.out
                  clear p1 o1 s1 S2
                  by_cases cd : mid < e
                  · have x1 : decide ((mid : Int) < (e : Int)) = true := by simp; omega
                    have x2 : decide ((e : Int) < (b : Int)) = false := by simp; omega
                    go_wp2_with fail
                    all_goals
                      go_end0
                      exact ⟨rfl, Q1, dq1, PF, HF.1, HF.2, g1⟩
                  · have x1 : decide ((mid : Int) < (e : Int)) = false := by simp; omega
                    go_wp2_with fail
                    all_goals
                      go_end0
                      exact ⟨rfl, Q1, dq1, PF, HF.1, HF.2, g1⟩
            · have S1 : Aside (SortedOn cf Q a mid) := HHV.out.h1' c1
              obtain ⟨Q1, hQ1⟩ : ∃ Q1, Q1 = Q := ⟨_, rfl⟩
              have dq1 : DataAt wr base g cap n Q1 := by rw [hQ1]; exact dq
              have p1 : Q1.Perm Q := by rw [hQ1]
              have o1 : SameOut Q1 Q a mid := fun k _ => by rw [hQ1]
              have s1 : SortedOn cf Q1 a mid := by rw [hQ1]; exact S1.out
              have g1 := gq'
              clear dq gq' hQ1
              by_cases cc : a < i
              · have u1 : decide ((a : Int) < (i : Int)) = true := by simp; omega
                have u2 : decide ((i : Int) < (mid : Int)) = false := by simp; omega
                by_cases c2 : mid < e ∧ e < b
                · have x1 : decide ((mid : Int) < (e : Int)) = true := by simp; omega
                  have x2 : decide ((e : Int) < (b : Int)) = true := by simp; omega
                  have M2 : Aside (Mrg cf Q1 mid e b) := (HHV.out.h2 c2).out p1.length_eq o1 (.inr (Nat.le_refl _))
                  have P1 : Aside _ := And.intro p1 (And.intro o1 s1)
                  clear p1 o1 s1
                  go_wp2_with fail
                  all_goals
                    refine (IH.out _ Q1 mid e b (by omega) dq1 g1 M2.out (P1.out.1.symm.nodup ndQ.out) (fun x hx => ltQ.out x (P1.out.1.mem_iff.1 hx))).mono ?_
                    rintro e7 w7 ⟨rfl, Q2, dq2, p2, o2, s2, g2⟩
                    have HF := halves_end HHV.out em mb2 (by omega) ndQ.out O0.out P1.out.1 P1.out.2.1 P1.out.2.2 p2 o2 s2
                    have PF := (p2.trans P1.out.1).trans PQ.out
                    clear p2 o2 s2 dq1 g1 x1 x2
                    go_wp2_with fail
                    all_goals
                      go_end0
                      exact ⟨rfl, Q2, dq2, PF, HF.1, HF.2, g2⟩
                · have S2 : SortedOn cf Q1 mid b := sorted_out (HHV.out.h2' c2) o1 (.inr (Nat.le_refl _))
                  have HF := halves_end HHV.out em mb2 (by omega) ndQ.out O0.out p1 o1 s1 (List.Perm.refl Q1) (fun _ _ => rfl) S2
                  have PF := p1.trans PQ.out
                  clear p1 o1 s1 S2
                  by_cases cd : mid < e
                  · have x1 : decide ((mid : Int) < (e : Int)) = true := by simp; omega
                    have x2 : decide ((e : Int) < (b : Int)) = false := by simp; omega
                    go_wp2_with fail
                    all_goals
                      go_end0
                      exact ⟨rfl, Q1, dq1, PF, HF.1, HF.2, g1⟩
                  · have x1 : decide ((mid : Int) < (e : Int)) = false := by simp; omega
                    go_wp2_with fail
                    all_goals
                      go_end0
                      exact ⟨rfl, Q1, dq1, PF, HF.1, HF.2, g1⟩
              · have u1 : decide ((a : Int) < (i : Int)) = false := by simp; omega
                by_cases c2 : mid < e ∧ e < b
                · have x1 : decide ((mid : Int) < (e : Int)) = true := by simp; omega
                  have x2 : decide ((e : Int) < (b : Int)) = true := by simp; omega
                  have M2 : Aside (Mrg cf Q1 mid e b) := (HHV.out.h2 c2).out p1.length_eq o1 (.inr (Nat.le_refl _))
                  have P1 : Aside _ := And.intro p1 (And.intro o1 s1)
                  clear p1 o1 s1
                  go_wp2_with fail
                  all_goals
                    refine (IH.out _ Q1 mid e b (by omega) dq1 g1 M2.out (P1.out.1.symm.nodup ndQ.out) (fun x hx => ltQ.out x (P1.out.1.mem_iff.1 hx))).mono ?_
                    rintro e7 w7 ⟨rfl, Q2, dq2, p2, o2, s2, g2⟩
                    have HF := halves_end HHV.out em mb2 (by omega) ndQ.out O0.out P1.out.1 P1.out.2.1 P1.out.2.2 p2 o2 s2
                    have PF := (p2.trans P1.out.1).trans PQ.out
                    clear p2 o2 s2 dq1 g1 x1 x2
                    go_wp2_with fail
                    all_goals
                      go_end0
                      exact ⟨rfl, Q2, dq2, PF, HF.1, HF.2, g2⟩
                · have S2 : SortedOn cf Q1 mid b := sorted_out (HHV.out.h2' c2) o1 (.inr (Nat.le_refl _))
                  have HF := halves_end HHV.out em mb2 (by omega) ndQ.out O0.out p1 o1 s1 (List.Perm.refl Q1) (fun _ _ => rfl) S2
                  have PF := p1.trans PQ.out
                  clear p1 o1 s1 S2
                  by_cases cd : mid < e
                  · have x1 : decide ((mid : Int) < (e : Int)) = true := by simp; omega
                    have x2 : decide ((e : Int) < (b : Int)) = false := by simp; omega
                    go_wp2_with fail
                    all_goals
                      go_end0
                      exact ⟨rfl, Q1, dq1, PF, HF.1, HF.2, g1⟩
                  · have x1 : decide ((mid : Int) < (e : Int)) = false := by simp; omega
                    go_wp2_with fail
                    all_goals
                      go_end0
                      exact ⟨rfl, Q1, dq1, PF, HF.1, HF.2, g1⟩
          · have r1 : decide ((i : Int) < (m : Int)) = false := by simp; omega
            clear r12
            have HHV : Aside (Halves cf Q a i mid e b) := halves HM.out pq.length_eq t1 t2 t3 t4 HE.out t5 T67.out.1 T67.out.2 rq
            have O0 : Aside (SameOut Q P a b) := fun k hk => by
              rw [rq k]; unfold rotR; rw [if_neg (by have := HE.out; omega), if_neg (by have := HE.out; omega)]
            have ndQ : Aside Q.Nodup := pq.symm.nodup HND.out
            have ltQ : Aside (∀ x ∈ Q, x < n) := fun x hx => HLT.out x (pq.mem_iff.1 hx)
            have PQ : Aside (Q.Perm P) := pq
            have hQl : Q.length = n := dq.1
            have em : a ≤ mid := by omega
            have mb2 : mid ≤ b := by omega
            clear rq T67 pq
            by_cases c1 : a < i ∧ i < mid
            · have u1 : decide ((a : Int) < (i : Int)) = true := by simp; omega
              have u2 : decide ((i : Int) < (mid : Int)) = true := by simp; omega
              go_wp2_with fail
              all_goals
                refine (IH.out _ Q a i mid (by omega) dq gq' (HHV.out.h1 c1) ndQ.out ltQ.out).mono ?_
                rintro e8 w6 ⟨rfl, Q1, dq1, p1, o1, s1, g1⟩
                clear dq gq' u1 u2
                by_cases c2 : mid < e ∧ e < b
                · have x1 : decide ((mid : Int) < (e : Int)) = true := by simp; omega
                  have x2 : decide ((e : Int) < (b : Int)) = true := by simp; omega
                  have M2 : Aside (Mrg cf Q1 mid e b) := (HHV.out.h2 c2).out p1.length_eq o1 (.inr (Nat.le_refl _))
                  have P1 : Aside _ := And.intro p1 (And.intro o1 s1)
                  clear p1 o1 s1
                  go_wp2_with fail
                  all_goals
                    refine (IH.out _ Q1 mid e b (by omega) dq1 g1 M2.out (P1.out.1.symm.nodup ndQ.out) (fun x hx => ltQ.out x (P1.out.1.mem_iff.1 hx))).mono ?_
                    rintro e7 w7 ⟨rfl, Q2, dq2, p2, o2, s2, g2⟩
                    have HF := halves_end HHV.out em mb2 (by omega) ndQ.out O0.out P1.out.1 P1.out.2.1 P1.out.2.2 p2 o2 s2
                    have PF := (p2.trans P1.out.1).trans PQ.out
                    clear p2 o2 s2 dq1 g1 x1 x2
                    go_wp2_with fail
                    all_goals
                      go_end0
                      exact ⟨rfl, Q2, dq2, PF, HF.1, HF.2, g2⟩
                · have S2 : SortedOn cf Q1 mid b := sorted_out (HHV.out.h2' c2) o1 (.inr (Nat.le_refl _))
                  have HF := halves_end HHV.out em mb2 (by omega) ndQ.out O0.out p1 o1 s1 (List.Perm.refl Q1) (fun _ _ => rfl) S2
                  have PF := p1.trans PQ.out
                  clear p1 o1 s1 S2
                  by_cases cd : mid < e
                  · have x1 : decide ((mid : Int) < (e : Int)) = true := by simp; omega
                    have x2 : decide ((e : Int) < (b : Int)) = false := by simp; omega
                    go_wp2_with fail
                    all_goals
                      go_end0
                      exact ⟨rfl, Q1, dq1, PF, HF.1, HF.2, g1⟩
                  · have x1 : decide ((mid : Int) < (e : Int)) = false := by simp; omega
                    go_wp2_with fail
                    all_goals
                      go_end0
                      exact ⟨rfl, Q1, dq1, PF, HF.1, HF.2, g1⟩
            · have S1 : Aside (SortedOn cf Q a mid) := HHV.out.h1' c1
              obtain ⟨Q1, hQ1⟩ : ∃ Q1, Q1 = Q := ⟨_, rfl⟩
              have dq1 : DataAt wr base g cap n Q1 := by rw [hQ1]; exact dq
              have p1 : Q1.Perm Q := by rw [hQ1]
              have o1 : SameOut Q1 Q a mid := fun k _ => by rw [hQ1]
              have s1 : SortedOn cf Q1 a mid := by rw [hQ1]; exact S1.out
              have g1 := gq'
              clear dq gq' hQ1
              by_cases cc : a < i
              · have u1 : decide ((a : Int) < (i : Int)) = true := by simp; omega
                have u2 : decide ((i : Int) < (mid : Int)) = false := by simp; omega
                by_cases c2 : mid < e ∧ e < b
                · have x1 : decide ((mid : Int) < (e : Int)) = true := by simp; omega
                  have x2 : decide ((e : Int) < (b : Int)) = true := by simp; omega
                  have M2 : Aside (Mrg cf Q1 mid e b) := (HHV.out.h2 c2).out p1.length_eq o1 (.inr (Nat.le_refl _))
                  have P1 : Aside _ := And.intro p1 (And.intro o1 s1)
                  clear p1 o1 s1
                  go_wp2_with fail
                  all_goals
                    refine (IH.out _ Q1 mid e b (by omega) dq1 g1 M2.out (P1.out.1.symm.nodup ndQ.out) (fun x hx => ltQ.out x (P1.out.1.mem_iff.1 hx))).mono ?_
                    rintro e7 w7 ⟨rfl, Q2, dq2, p2, o2, s2, g2⟩
                    have HF := halves_end HHV.out em mb2 (by omega) ndQ.out O0.out P1.out.1 P1.out.2.1 P1.out.2.2 p2 o2 s2
                    have PF := (p2.trans P1.out.1).trans PQ.out
                    clear p2 o2 s2 dq1 g1 x1 x2
                    go_wp2_with fail
                    all_goals
                      go_end0
                      exact ⟨rfl, Q2, dq2, PF, HF.1, HF.2, g2⟩
                · have S2 : SortedOn cf Q1 mid b := sorted_out (HHV.out.h2' c2) o1 (.inr (Nat.le_refl _))
                  have HF := halves_end HHV.out em mb2 (by omega) ndQ.out O0.out p1 o1 s1 (List.Perm.refl Q1) (fun _ _ => rfl) S2
                  have PF := p1.trans PQ.out
                  clear p1 o1 s1 S2
                  by_cases cd : mid < e
                  · have x1 : decide ((mid : Int) < (e : Int)) = true := by simp; omega
                    have x2 : decide ((e : Int) < (b : Int)) = false := by simp; omega
                    go_wp2_with fail
                    all_goals
                      go_end0
                      exact ⟨rfl, Q1, dq1, PF, HF.1, HF.2, g1⟩
                  · have x1 : decide ((mid : Int) < (e : Int)) = false := by simp; omega
                    go_wp2_with fail
                    all_goals
                      go_end0
                      exact ⟨rfl, Q1, dq1, PF, HF.1, HF.2, g1⟩
              · have u1 : decide ((a : Int) < (i : Int)) = false := by simp; omega
                by_cases c2 : mid < e ∧ e < b
                · have x1 : decide ((mid : Int) < (e : Int)) = true := by simp; omega
                  have x2 : decide ((e : Int) < (b : Int)) = true := by simp; omega
                  have M2 : Aside (Mrg cf Q1 mid e b) := (HHV.out.h2 c2).out p1.length_eq o1 (.inr (Nat.le_refl _))
                  have P1 : Aside _ := And.intro p1 (And.intro o1 s1)
                  clear p1 o1 s1
                  go_wp2_with fail
                  all_goals
                    refine (IH.out _ Q1 mid e b (by omega) dq1 g1 M2.out (P1.out.1.symm.nodup ndQ.out) (fun x hx => ltQ.out x (P1.out.1.mem_iff.1 hx))).mono ?_
                    rintro e7 w7 ⟨rfl, Q2, dq2, p2, o2, s2, g2⟩
                    have HF := halves_end HHV.out em mb2 (by omega) ndQ.out O0.out P1.out.1 P1.out.2.1 P1.out.2.2 p2 o2 s2
                    have PF := (p2.trans P1.out.1).trans PQ.out
                    clear p2 o2 s2 dq1 g1 x1 x2
                    go_wp2_with fail
                    all_goals
                      go_end0
                      exact ⟨rfl, Q2, dq2, PF, HF.1, HF.2, g2⟩
                · have S2 : SortedOn cf Q1 mid b := sorted_out (HHV.out.h2' c2) o1 (.inr (Nat.le_refl _))
                  have HF := halves_end HHV.out em mb2 (by omega) ndQ.out O0.out p1 o1 s1 (List.Perm.refl Q1) (fun _ _ => rfl) S2
                  have PF := p1.trans PQ.out
                  clear p1 o1 s1 S2
                  by_cases cd : mid < e
                  · have x1 : decide ((mid : Int) < (e : Int)) = true := by simp; omega
                    have x2 : decide ((e : Int) < (b : Int)) = false := by simp; omega
                    go_wp2_with fail
                    all_goals
                      go_end0
                      exact ⟨rfl, Q1, dq1, PF, HF.1, HF.2, g1⟩
                  · have x1 : decide ((mid : Int) < (e : Int)) = false := by simp; omega
                    go_wp2_with fail
                    all_goals
                      go_end0
                      exact ⟨rfl, Q1, dq1, PF, HF.1, HF.2, g1⟩
  · have hgt : decide ((mid : Int) < (m : Int)) = false := by simp; omega
    have hr0 : m = r0 := by omega
    have hs0' : a = s0 := by omega
    have HR0 : Hid (m = r0) := hr0
    have HS0 : Hid (a = s0) := hs0'
    clear hs0 hsr hr0 hs0'
    go_enter Tryd.func36, Tryd.ntmps36
    go_wp2_with fail
    go_loopw [20, 21] (fun vi vj wr => ∃ i j : Nat, vi = .int .i64 i ∧ vj = .int .i64 j ∧ s0 ≤ i ∧ i ≤ j ∧ j ≤ r0 ∧ (∀ c, s0 ≤ c → c < i → 0 ≤ cf (nth P (mid + m - 1 - c)) (nth P c)) ∧ (∀ c, j ≤ c → c < r0 → cf (nth P (mid + m - 1 - c)) (nth P c) < 0) ∧ DataAt wr base g cap n P ∧ w0.grownBy wr (some g)) (fun vi vj _ => (intOf vj).toNat - (intOf vi).toNat)
    case atStart => exact ⟨s0, r0, by first | rfl | rw [HS0.out], by first | rfl | rw [HR0.out], Nat.le_refl _, hsr1, Nat.le_refl _, fun k h1 h2 => by omega, fun k h1 h2 => by omega, hd, hg⟩
    case round =>
      obtain ⟨i, j, rfl, rfl, hmi, hij, hjb, hlo, hhi, hdr, hgr⟩ := hrel
      clear hd hg
      have HLO : Aside _ := And.intro hlo hhi
      clear hlo hhi
      by_cases hlt : i < j
      · have hltt : decide ((i : Int) < (j : Int)) = true := by simp; omega
        obtain ⟨h, hh⟩ : ∃ h : Nat, ((i : Int) + (j : Int)) / 2 = (h : Int) := ⟨(i + j) / 2, by omega⟩
        have hih : i ≤ h := by omega
        have hhj : h < j := by omega
        obtain ⟨ix1, ix2, ix3, ix4⟩ := IDX.out h (by omega) (by omega)
        have pv := HP.out
        obtain ⟨q, hq⟩ : ∃ q : Nat, (p : Int) - (h : Int) = (q : Int) := ⟨p - h, by omega⟩
        have qE : q = mid + m - 1 - h := by omega
        have hwq : IntKind.i64.wrap ((p : Int) - (h : Int)) = (q : Int) := by rw [IntKind.wrap_i64]; omega
        have z1 : (h : Int) < (n : Int) := by omega
        have z2 : (q : Int) < (n : Int) := by omega
        have z3 : (0 : Int) ≤ (h : Int) := by omega
        have z4 : (0 : Int) ≤ (q : Int) := by omega
        have qm : m ≤ q := by omega
        have qb : q < b := by omega
        have hn1 : h < n := by omega
        have qn1 : q < n := by omega
        have LOWH : Aside (nth P h < nth P q) := HM.out.low h q ix1 ix2 qm qb
        have HQ : Hid (mid + m - 1 - h = q) := qE.symm
        clear pv qE
        by_cases hz : cf (nth P q) (nth P h) < 0
        · have hzb : decide (cf (nth P q) (nth P h) < 0) = true := by simpa using hz
          have HHI2 : Aside (∀ c, h ≤ c → c < r0 → cf (nth P (mid + m - 1 - c)) (nth P c) < 0) := fun c h1 h2 => by
            by_cases cc : c = h
            · rw [cc, HQ.out]; exact hz
            · by_cases cj : j ≤ c
              · exact HLO.out.2 c cj h2
              · obtain ⟨x1, x2, x3, x4⟩ := IDX.out c (by omega) h2
                have e1 : lt cf (nth P (mid + m - 1 - c)) (nth P q) := HM.out.s2 _ _ x3 (by have := HQ.out; omega) qb
                have e2 := lt_trans' HC.out e1 (.inl hz)
                have e3 := lt_trans' HC.out e2 (HM.out.s1 h c ix1 (by omega) x2)
                rcases e3 with t | ⟨_, t⟩
                · exact t
                · have := HM.out.low c (mid + m - 1 - c) x1 x2 x3 x4; omega
          obtain ⟨c1, f1⟩ := hdr.cell (show q < n by omega)
          obtain ⟨c2, f2⟩ := hdr.cell (show h < n by omega)
          have hpx := nth_lt (List.Perm.refl _) HLT.out (show q < P.length by omega)
          have hqx := nth_lt (List.Perm.refl _) HLT.out (show h < P.length by omega)
          have cc1 : ∀ d os, (grow (redrawn wr d) os).cell? ⟨g, q, none⟩ = some (.int .i64 (nth P (q) : Int)) := fun d os => cell_regrown c1 d os
          have cc2 : ∀ d os, (grow (redrawn wr d) os).cell? ⟨g, h, none⟩ = some (.int .i64 (nth P (h) : Int)) := fun d os => cell_regrown c2 d os
          have hcl : Aside (∀ d os, Calls Tryd.prog K (#[.int .i64 (nth P (q) : Int), .int .i64 (nth P (h) : Int)] ++ cb) (grow (redrawn wr d) os) fun e w'' => e = .returned (.int .i64 (cf (nth P (q)) (nth P (h)))) ∧ Below (grow (redrawn wr d) os).heap.size (grow (redrawn wr d) os) w'') := fun d os => HCM.out _ (grownBy_below hgr (below_regrown ..)) _ _ hpx hqx
          clear c1 c2 f1 f2
          go_wp2_with fail
          refine wp_region_quiet_below (by kernel_rfl) (by kernel_rfl) ?_
          repeat (first | go_big_quiet_step (exact Calls.regrown_of (hcl.out _ _)) | quiet_step (exact Calls.regrown_of (hcl.out _ _)))
          refine wpQuiet_nil ?_
          rintro _ ⟨⟨dq, osq⟩, rfl⟩
          have hb := below_regrown wr dq osq
          generalize grow (redrawn wr dq) osq = w4 at hb ⊢
          have d4 := hdr.keep hb
          have g4 := grownBy_below hgr hb
          clear cc1 cc2 hcl hpx hqx hdr hgr hb
          go_wp2_with fail
          go_roundw
          case rel => exact ⟨i, h, rfl, rfl, hmi, hih, by omega, HLO.out.1, HHI2.out, d4, g4⟩
          case measure => simp [intOf]; omega
        · have hzb : decide (cf (nth P q) (nth P h) < 0) = false := by simpa using hz
          have HLO2 : Aside (∀ c, s0 ≤ c → c < h + 1 → 0 ≤ cf (nth P (mid + m - 1 - c)) (nth P c)) := fun c h1 h2 => by
            by_cases cc : c = h
            · rw [cc, HQ.out]; omega
            · by_cases cj : c < i
              · exact HLO.out.1 c h1 cj
              · obtain ⟨x1, x2, x3, x4⟩ := IDX.out c h1 (by omega)
                apply Int.not_lt.1
                intro hk
                have e0 : lt cf (nth P h) (nth P q) := lt_not HC.out LOWH.out hz
                have e1 := lt_trans' HC.out (HM.out.s1 c h x1 (by omega) ix2) e0
                have e2 := lt_trans' HC.out e1 (HM.out.s2 q (mid + m - 1 - c) qm (by have := HQ.out; omega) x4)
                exact lt_asymm' HC.out e2 (.inl hk)
          obtain ⟨c1, f1⟩ := hdr.cell (show q < n by omega)
          obtain ⟨c2, f2⟩ := hdr.cell (show h < n by omega)
          have hpx := nth_lt (List.Perm.refl _) HLT.out (show q < P.length by omega)
          have hqx := nth_lt (List.Perm.refl _) HLT.out (show h < P.length by omega)
          have cc1 : ∀ d os, (grow (redrawn wr d) os).cell? ⟨g, q, none⟩ = some (.int .i64 (nth P (q) : Int)) := fun d os => cell_regrown c1 d os
          have cc2 : ∀ d os, (grow (redrawn wr d) os).cell? ⟨g, h, none⟩ = some (.int .i64 (nth P (h) : Int)) := fun d os => cell_regrown c2 d os
          have hcl : Aside (∀ d os, Calls Tryd.prog K (#[.int .i64 (nth P (q) : Int), .int .i64 (nth P (h) : Int)] ++ cb) (grow (redrawn wr d) os) fun e w'' => e = .returned (.int .i64 (cf (nth P (q)) (nth P (h)))) ∧ Below (grow (redrawn wr d) os).heap.size (grow (redrawn wr d) os) w'') := fun d os => HCM.out _ (grownBy_below hgr (below_regrown ..)) _ _ hpx hqx
          clear c1 c2 f1 f2
          go_wp2_with fail
          refine wp_region_quiet_below (by kernel_rfl) (by kernel_rfl) ?_
          repeat (first | go_big_quiet_step (exact Calls.regrown_of (hcl.out _ _)) | quiet_step (exact Calls.regrown_of (hcl.out _ _)))
          refine wpQuiet_nil ?_
          rintro _ ⟨⟨dq, osq⟩, rfl⟩
          have hb := below_regrown wr dq osq
          generalize grow (redrawn wr dq) osq = w4 at hb ⊢
          have d4 := hdr.keep hb
          have g4 := grownBy_below hgr hb
          clear cc1 cc2 hcl hpx hqx hdr hgr hb
          go_wp2_with fail
          go_roundw
          case rel => exact ⟨h + 1, j, by go_num, rfl, by omega, by omega, hjb, HLO2.out, HLO.out.2, d4, g4⟩
          case measure => simp [intOf]; omega
      · have hltt : decide ((i : Int) < (j : Int)) = false := by simp; omega
        have hij' : i = j := by omega
        subst hij'
        obtain ⟨t1, t2, t3, t4, t5, t6, t7⟩ := search_end HC.out HM.out m1 m2 HSR.out hmi hjb (fun c h1 h2 => Int.not_lt.2 (HLO.out.1 c h1 h2)) HLO.out.2
        obtain ⟨e, he⟩ : ∃ e : Nat, (NN : Int) - (i : Int) = (e : Int) := ⟨NN - i, by have := HNN.out; omega⟩
        have eE : e = mid + m - i := by have := HNN.out; omega
        have hwe : IntKind.i64.wrap ((NN : Int) - (i : Int)) = (e : Int) := by rw [IntKind.wrap_i64]; omega
        rw [← eE] at t3 t4 t6 t7
        have T67 : Aside _ := And.intro t6 t7
        have HE : Hid (e = mid + m - i) := eE
        clear t6 t7 eE HLO
        by_cases hr : i < m ∧ m < e
        · have r1 : decide ((i : Int) < (m : Int)) = true := by simp; omega
          have r2 : decide ((m : Int) < (e : Int)) = true := by simp; omega
          go_wp2_with fail
          refine (rotate_any _ base g cap n i m e _ P ⟨K, cb, rfl⟩ hdr hn hr.1 hr.2 (by omega)).mono ?_
          rintro e9 w5 ⟨rfl, Q, dq, pq, rq, gq⟩
          have gq' := grownBy_tr hgr gq
          clear gq hgr hdr r1 r2
          have HHV : Aside (Halves cf Q a i mid e b) := halves HM.out pq.length_eq t1 t2 t3 t4 HE.out t5 T67.out.1 T67.out.2 rq
          have O0 : Aside (SameOut Q P a b) := fun k hk => by
            rw [rq k]; unfold rotR; rw [if_neg (by have := HE.out; omega), if_neg (by have := HE.out; omega)]
          have ndQ : Aside Q.Nodup := pq.symm.nodup HND.out
          have ltQ : Aside (∀ x ∈ Q, x < n) := fun x hx => HLT.out x (pq.mem_iff.1 hx)
          have PQ : Aside (Q.Perm P) := pq
          have hQl : Q.length = n := dq.1
          have em : a ≤ mid := by omega
          have mb2 : mid ≤ b := by omega
          clear rq T67 pq
          by_cases c1 : a < i ∧ i < mid
          · have u1 : decide ((a : Int) < (i : Int)) = true := by simp; omega
            have u2 : decide ((i : Int) < (mid : Int)) = true := by simp; omega
            go_wp2_with fail
            all_goals
              refine (IH.out _ Q a i mid (by omega) dq gq' (HHV.out.h1 c1) ndQ.out ltQ.out).mono ?_
              rintro e8 w6 ⟨rfl, Q1, dq1, p1, o1, s1, g1⟩
              clear dq gq' u1 u2
              by_cases c2 : mid < e ∧ e < b
              · have x1 : decide ((mid : Int) < (e : Int)) = true := by simp; omega
                have x2 : decide ((e : Int) < (b : Int)) = true := by simp; omega
                have M2 : Aside (Mrg cf Q1 mid e b) := (HHV.out.h2 c2).out p1.length_eq o1 (.inr (Nat.le_refl _))
                have P1 : Aside _ := And.intro p1 (And.intro o1 s1)
                clear p1 o1 s1
                go_wp2_with fail
                all_goals
                  refine (IH.out _ Q1 mid e b (by omega) dq1 g1 M2.out (P1.out.1.symm.nodup ndQ.out) (fun x hx => ltQ.out x (P1.out.1.mem_iff.1 hx))).mono ?_
                  rintro e7 w7 ⟨rfl, Q2, dq2, p2, o2, s2, g2⟩
                  have HF := halves_end HHV.out em mb2 (by omega) ndQ.out O0.out P1.out.1 P1.out.2.1 P1.out.2.2 p2 o2 s2
                  have PF := (p2.trans P1.out.1).trans PQ.out
                  clear p2 o2 s2 dq1 g1 x1 x2
                  go_wp2_with fail
                  all_goals
                    go_end0
                    exact ⟨rfl, Q2, dq2, PF, HF.1, HF.2, g2⟩
              · have S2 : SortedOn cf Q1 mid b := sorted_out (HHV.out.h2' c2) o1 (.inr (Nat.le_refl _))
                have HF := halves_end HHV.out em mb2 (by omega) ndQ.out O0.out p1 o1 s1 (List.Perm.refl Q1) (fun _ _ => rfl) S2
                have PF := p1.trans PQ.out
                clear p1 o1 s1 S2
                by_cases cd : mid < e
                · have x1 : decide ((mid : Int) < (e : Int)) = true := by simp; omega
                  have x2 : decide ((e : Int) < (b : Int)) = false := by simp; omega
                  go_wp2_with fail
                  all_goals
                    go_end0
                    exact ⟨rfl, Q1, dq1, PF, HF.1, HF.2, g1⟩
                · have x1 : decide ((mid : Int) < (e : Int)) = false := by simp; omega
                  go_wp2_with fail
                  all_goals
                    go_end0
                    exact ⟨rfl, Q1, dq1, PF, HF.1, HF.2, g1⟩
          · have S1 : Aside (SortedOn cf Q a mid) := HHV.out.h1' c1
            obtain ⟨Q1, hQ1⟩ : ∃ Q1, Q1 = Q := ⟨_, rfl⟩
            have dq1 : DataAt w5 base g cap n Q1 := by rw [hQ1]; exact dq
            have p1 : Q1.Perm Q := by rw [hQ1]
            have o1 : SameOut Q1 Q a mid := fun k _ => by rw [hQ1]
            have s1 : SortedOn cf Q1 a mid := by rw [hQ1]; exact S1.out
            have g1 := gq'
            clear dq gq' hQ1
            by_cases cc : a < i
            · have u1 : decide ((a : Int) < (i : Int)) = true := by simp; omega
              have u2 : decide ((i : Int) < (mid : Int)) = false := by simp; omega
              by_cases c2 : mid < e ∧ e < b
              · have x1 : decide ((mid : Int) < (e : Int)) = true := by simp; omega
                have x2 : decide ((e : Int) < (b : Int)) = true := by simp; omega
                have M2 : Aside (Mrg cf Q1 mid e b) := (HHV.out.h2 c2).out p1.length_eq o1 (.inr (Nat.le_refl _))
                have P1 : Aside _ := And.intro p1 (And.intro o1 s1)
                clear p1 o1 s1
                go_wp2_with fail
                all_goals
                  refine (IH.out _ Q1 mid e b (by omega) dq1 g1 M2.out (P1.out.1.symm.nodup ndQ.out) (fun x hx => ltQ.out x (P1.out.1.mem_iff.1 hx))).mono ?_
                  rintro e7 w7 ⟨rfl, Q2, dq2, p2, o2, s2, g2⟩
                  have HF := halves_end HHV.out em mb2 (by omega) ndQ.out O0.out P1.out.1 P1.out.2.1 P1.out.2.2 p2 o2 s2
                  have PF := (p2.trans P1.out.1).trans PQ.out
                  clear p2 o2 s2 dq1 g1 x1 x2
                  go_wp2_with fail
                  all_goals
                    go_end0
                    exact ⟨rfl, Q2, dq2, PF, HF.1, HF.2, g2⟩
              · have S2 : SortedOn cf Q1 mid b := sorted_out (HHV.out.h2' c2) o1 (.inr (Nat.le_refl _))
                have HF := halves_end HHV.out em mb2 (by omega) ndQ.out O0.out p1 o1 s1 (List.Perm.refl Q1) (fun _ _ => rfl) S2
                have PF := p1.trans PQ.out
                clear p1 o1 s1 S2
                by_cases cd : mid < e
                · have x1 : decide ((mid : Int) < (e : Int)) = true := by simp; omega
                  have x2 : decide ((e : Int) < (b : Int)) = false := by simp; omega
                  go_wp2_with fail
                  all_goals
                    go_end0
                    exact ⟨rfl, Q1, dq1, PF, HF.1, HF.2, g1⟩
                · have x1 : decide ((mid : Int) < (e : Int)) = false := by simp; omega
                  go_wp2_with fail
                  all_goals
                    go_end0
                    exact ⟨rfl, Q1, dq1, PF, HF.1, HF.2, g1⟩
            · have u1 : decide ((a : Int) < (i : Int)) = false := by simp; omega
              by_cases c2 : mid < e ∧ e < b
              · have x1 : decide ((mid : Int) < (e : Int)) = true := by simp; omega
                have x2 : decide ((e : Int) < (b : Int)) = true := by simp; omega
                have M2 : Aside (Mrg cf Q1 mid e b) := (HHV.out.h2 c2).out p1.length_eq o1 (.inr (Nat.le_refl _))
                have P1 : Aside _ := And.intro p1 (And.intro o1 s1)
                clear p1 o1 s1
                go_wp2_with fail
                all_goals
                  refine (IH.out _ Q1 mid e b (by omega) dq1 g1 M2.out (P1.out.1.symm.nodup ndQ.out) (fun x hx => ltQ.out x (P1.out.1.mem_iff.1 hx))).mono ?_
                  rintro e7 w7 ⟨rfl, Q2, dq2, p2, o2, s2, g2⟩
                  have HF := halves_end HHV.out em mb2 (by omega) ndQ.out O0.out P1.out.1 P1.out.2.1 P1.out.2.2 p2 o2 s2
                  have PF := (p2.trans P1.out.1).trans PQ.out
                  clear p2 o2 s2 dq1 g1 x1 x2
                  go_wp2_with fail
                  all_goals
                    go_end0
                    exact ⟨rfl, Q2, dq2, PF, HF.1, HF.2, g2⟩
              · have S2 : SortedOn cf Q1 mid b := sorted_out (HHV.out.h2' c2) o1 (.inr (Nat.le_refl _))
                have HF := halves_end HHV.out em mb2 (by omega) ndQ.out O0.out p1 o1 s1 (List.Perm.refl Q1) (fun _ _ => rfl) S2
                have PF := p1.trans PQ.out
                clear p1 o1 s1 S2
                by_cases cd : mid < e
                · have x1 : decide ((mid : Int) < (e : Int)) = true := by simp; omega
                  have x2 : decide ((e : Int) < (b : Int)) = false := by simp; omega
                  go_wp2_with fail
                  all_goals
                    go_end0
                    exact ⟨rfl, Q1, dq1, PF, HF.1, HF.2, g1⟩
                · have x1 : decide ((mid : Int) < (e : Int)) = false := by simp; omega
                  go_wp2_with fail
                  all_goals
                    go_end0
                    exact ⟨rfl, Q1, dq1, PF, HF.1, HF.2, g1⟩
        · have r12 : (decide ((i : Int) < (m : Int)) && decide ((m : Int) < (e : Int))) = false := by rw [Bool.and_eq_false_iff]; simp; omega
          obtain ⟨Q, hQ⟩ : ∃ Q, Q = P := ⟨_, rfl⟩
          have dq : DataAt wr base g cap n Q := by rw [hQ]; exact hdr
          have pq : Q.Perm P := by rw [hQ]
          have rq : ∀ k, nth Q k = rotR (nth P) i m e k := fun k => by rw [hQ]; exact rot_id t2 t3 hr k
          have gq' := hgr
          clear hgr hdr hQ
          by_cases rr : i < m
          · have r1 : decide ((i : Int) < (m : Int)) = true := by simp; omega
            have r2 : decide ((m : Int) < (e : Int)) = false := by simp; omega
            clear r12
            have HHV : Aside (Halves cf Q a i mid e b) := halves HM.out pq.length_eq t1 t2 t3 t4 HE.out t5 T67.out.1 T67.out.2 rq
            have O0 : Aside (SameOut Q P a b) := fun k hk => by
              rw [rq k]; unfold rotR; rw [if_neg (by have := HE.out; omega), if_neg (by have := HE.out; omega)]
            have ndQ : Aside Q.Nodup := pq.symm.nodup HND.out
            have ltQ : Aside (∀ x ∈ Q, x < n) := fun x hx => HLT.out x (pq.mem_iff.1 hx)
            have PQ : Aside (Q.Perm P) := pq
            have hQl : Q.length = n := dq.1
            have em : a ≤ mid := by omega
            have mb2 : mid ≤ b := by omega
            clear rq T67 pq
            by_cases c1 : a < i ∧ i < mid
            · have u1 : decide ((a : Int) < (i : Int)) = true := by simp; omega
              have u2 : decide ((i : Int) < (mid : Int)) = true := by simp; omega
              go_wp2_with fail
              all_goals
                refine (IH.out _ Q a i mid (by omega) dq gq' (HHV.out.h1 c1) ndQ.out ltQ.out).mono ?_
                rintro e8 w6 ⟨rfl, Q1, dq1, p1, o1, s1, g1⟩
                clear dq gq' u1 u2
                by_cases c2 : mid < e ∧ e < b
                · have x1 : decide ((mid : Int) < (e : Int)) = true := by simp; omega
                  have x2 : decide ((e : Int) < (b : Int)) = true := by simp; omega
                  have M2 : Aside (Mrg cf Q1 mid e b) := (HHV.out.h2 c2).out p1.length_eq o1 (.inr (Nat.le_refl _))
                  have P1 : Aside _ := And.intro p1 (And.intro o1 s1)
                  clear p1 o1 s1
                  go_wp2_with fail
                  all_goals
                    refine (IH.out _ Q1 mid e b (by omega) dq1 g1 M2.out (P1.out.1.symm.nodup ndQ.out) (fun x hx => ltQ.out x (P1.out.1.mem_iff.1 hx))).mono ?_
                    rintro e7 w7 ⟨rfl, Q2, dq2, p2, o2, s2, g2⟩
                    have HF := halves_end HHV.out em mb2 (by omega) ndQ.out O0.out P1.out.1 P1.out.2.1 P1.out.2.2 p2 o2 s2
                    have PF := (p2.trans P1.out.1).trans PQ.out
                    clear p2 o2 s2 dq1 g1 x1 x2
                    go_wp2_with fail
                    all_goals
                      go_end0
                      exact ⟨rfl, Q2, dq2, PF, HF.1, HF.2, g2⟩
                · have S2 : SortedOn cf Q1 mid b := sorted_out (HHV.out.h2' c2) o1 (.inr (Nat.le_refl _))
                  have HF := halves_end HHV.out em mb2 (by omega) ndQ.out O0.out p1 o1 s1 (List.Perm.refl Q1) (fun _ _ => rfl) S2
                  have PF := p1.trans PQ.out
                  clear p1 o1 s1 S2
                  by_cases cd : mid < e
                  · have x1 : decide ((mid : Int) < (e : Int)) = true := by simp; omega
                    have x2 : decide ((e : Int) < (b : Int)) = false := by simp; omega
                    go_wp2_with fail
                    all_goals
                      go_end0
                      exact ⟨rfl, Q1, dq1, PF, HF.1, HF.2, g1⟩
                  · have x1 : decide ((mid : Int) < (e : Int)) = false := by simp; omega
                    go_wp2_with fail
                    all_goals
                      go_end0
                      exact ⟨rfl, Q1, dq1, PF, HF.1, HF.2, g1⟩
            · have S1 : Aside (SortedOn cf Q a mid) := HHV.out.h1' c1
              obtain ⟨Q1, hQ1⟩ : ∃ Q1, Q1 = Q := ⟨_, rfl⟩
              have dq1 : DataAt wr base g cap n Q1 := by rw [hQ1]; exact dq
              have p1 : Q1.Perm Q := by rw [hQ1]
              have o1 : SameOut Q1 Q a mid := fun k _ => by rw [hQ1]
              have s1 : SortedOn cf Q1 a mid := by rw [hQ1]; exact S1.out
              have g1 := gq'
              clear dq gq' hQ1
              by_cases cc : a < i
              · have u1 : decide ((a : Int) < (i : Int)) = true := by simp; omega
                have u2 : decide ((i : Int) < (mid : Int)) = false := by simp; omega
                by_cases c2 : mid < e ∧ e < b
                · have x1 : decide ((mid : Int) < (e : Int)) = true := by simp; omega
                  have x2 : decide ((e : Int) < (b : Int)) = true := by simp; omega
                  have M2 : Aside (Mrg cf Q1 mid e b) := (HHV.out.h2 c2).out p1.length_eq o1 (.inr (Nat.le_refl _))
                  have P1 : Aside _ := And.intro p1 (And.intro o1 s1)
                  clear p1 o1 s1
                  go_wp2_with fail
                  all_goals
                    refine (IH.out _ Q1 mid e b (by omega) dq1 g1 M2.out (P1.out.1.symm.nodup ndQ.out) (fun x hx => ltQ.out x (P1.out.1.mem_iff.1 hx))).mono ?_
                    rintro e7 w7 ⟨rfl, Q2, dq2, p2, o2, s2, g2⟩
                    have HF := halves_end HHV.out em mb2 (by omega) ndQ.out O0.out P1.out.1 P1.out.2.1 P1.out.2.2 p2 o2 s2
                    have PF := (p2.trans P1.out.1).trans PQ.out
                    clear p2 o2 s2 dq1 g1 x1 x2
                    go_wp2_with fail
                    all_goals
                      go_end0
                      exact ⟨rfl, Q2, dq2, PF, HF.1, HF.2, g2⟩
                · have S2 : SortedOn cf Q1 mid b := sorted_out (HHV.out.h2' c2) o1 (.inr (Nat.le_refl _))
                  have HF := halves_end HHV.out em mb2 (by omega) ndQ.out O0.out p1 o1 s1 (List.Perm.refl Q1) (fun _ _ => rfl) S2
                  have PF := p1.trans PQ.out
                  clear p1 o1 s1 S2
                  by_cases cd : mid < e
                  · have x1 : decide ((mid : Int) < (e : Int)) = true := by simp; omega
                    have x2 : decide ((e : Int) < (b : Int)) = false := by simp; omega
                    go_wp2_with fail
                    all_goals
                      go_end0
                      exact ⟨rfl, Q1, dq1, PF, HF.1, HF.2, g1⟩
                  · have x1 : decide ((mid : Int) < (e : Int)) = false := by simp; omega
                    go_wp2_with fail
                    all_goals
                      go_end0
                      exact ⟨rfl, Q1, dq1, PF, HF.1, HF.2, g1⟩
              · have u1 : decide ((a : Int) < (i : Int)) = false := by simp; omega
                by_cases c2 : mid < e ∧ e < b
                · have x1 : decide ((mid : Int) < (e : Int)) = true := by simp; omega
                  have x2 : decide ((e : Int) < (b : Int)) = true := by simp; omega
                  have M2 : Aside (Mrg cf Q1 mid e b) := (HHV.out.h2 c2).out p1.length_eq o1 (.inr (Nat.le_refl _))
                  have P1 : Aside _ := And.intro p1 (And.intro o1 s1)
                  clear p1 o1 s1
                  go_wp2_with fail
                  all_goals
                    refine (IH.out _ Q1 mid e b (by omega) dq1 g1 M2.out (P1.out.1.symm.nodup ndQ.out) (fun x hx => ltQ.out x (P1.out.1.mem_iff.1 hx))).mono ?_
                    rintro e7 w7 ⟨rfl, Q2, dq2, p2, o2, s2, g2⟩
                    have HF := halves_end HHV.out em mb2 (by omega) ndQ.out O0.out P1.out.1 P1.out.2.1 P1.out.2.2 p2 o2 s2
                    have PF := (p2.trans P1.out.1).trans PQ.out
                    clear p2 o2 s2 dq1 g1 x1 x2
                    go_wp2_with fail
                    all_goals
                      go_end0
                      exact ⟨rfl, Q2, dq2, PF, HF.1, HF.2, g2⟩
                · have S2 : SortedOn cf Q1 mid b := sorted_out (HHV.out.h2' c2) o1 (.inr (Nat.le_refl _))
                  have HF := halves_end HHV.out em mb2 (by omega) ndQ.out O0.out p1 o1 s1 (List.Perm.refl Q1) (fun _ _ => rfl) S2
                  have PF := p1.trans PQ.out
                  clear p1 o1 s1 S2
                  by_cases cd : mid < e
                  · have x1 : decide ((mid : Int) < (e : Int)) = true := by simp; omega
                    have x2 : decide ((e : Int) < (b : Int)) = false := by simp; omega
                    go_wp2_with fail
                    all_goals
                      go_end0
                      exact ⟨rfl, Q1, dq1, PF, HF.1, HF.2, g1⟩
                  · have x1 : decide ((mid : Int) < (e : Int)) = false := by simp; omega
                    go_wp2_with fail
                    all_goals
                      go_end0
                      exact ⟨rfl, Q1, dq1, PF, HF.1, HF.2, g1⟩
          · have r1 : decide ((i : Int) < (m : Int)) = false := by simp; omega
            clear r12
            have HHV : Aside (Halves cf Q a i mid e b) := halves HM.out pq.length_eq t1 t2 t3 t4 HE.out t5 T67.out.1 T67.out.2 rq
            have O0 : Aside (SameOut Q P a b) := fun k hk => by
              rw [rq k]; unfold rotR; rw [if_neg (by have := HE.out; omega), if_neg (by have := HE.out; omega)]
            have ndQ : Aside Q.Nodup := pq.symm.nodup HND.out
            have ltQ : Aside (∀ x ∈ Q, x < n) := fun x hx => HLT.out x (pq.mem_iff.1 hx)
            have PQ : Aside (Q.Perm P) := pq
            have hQl : Q.length = n := dq.1
            have em : a ≤ mid := by omega
            have mb2 : mid ≤ b := by omega
            clear rq T67 pq
            by_cases c1 : a < i ∧ i < mid
            · have u1 : decide ((a : Int) < (i : Int)) = true := by simp; omega
              have u2 : decide ((i : Int) < (mid : Int)) = true := by simp; omega
              go_wp2_with fail
              all_goals
                refine (IH.out _ Q a i mid (by omega) dq gq' (HHV.out.h1 c1) ndQ.out ltQ.out).mono ?_
                rintro e8 w6 ⟨rfl, Q1, dq1, p1, o1, s1, g1⟩
                clear dq gq' u1 u2
                by_cases c2 : mid < e ∧ e < b
                · have x1 : decide ((mid : Int) < (e : Int)) = true := by simp; omega
                  have x2 : decide ((e : Int) < (b : Int)) = true := by simp; omega
                  have M2 : Aside (Mrg cf Q1 mid e b) := (HHV.out.h2 c2).out p1.length_eq o1 (.inr (Nat.le_refl _))
                  have P1 : Aside _ := And.intro p1 (And.intro o1 s1)
                  clear p1 o1 s1
                  go_wp2_with fail
                  all_goals
                    refine (IH.out _ Q1 mid e b (by omega) dq1 g1 M2.out (P1.out.1.symm.nodup ndQ.out) (fun x hx => ltQ.out x (P1.out.1.mem_iff.1 hx))).mono ?_
                    rintro e7 w7 ⟨rfl, Q2, dq2, p2, o2, s2, g2⟩
                    have HF := halves_end HHV.out em mb2 (by omega) ndQ.out O0.out P1.out.1 P1.out.2.1 P1.out.2.2 p2 o2 s2
                    have PF := (p2.trans P1.out.1).trans PQ.out
                    clear p2 o2 s2 dq1 g1 x1 x2
                    go_wp2_with fail
                    all_goals
                      go_end0
                      exact ⟨rfl, Q2, dq2, PF, HF.1, HF.2, g2⟩
                · have S2 : SortedOn cf Q1 mid b := sorted_out (HHV.out.h2' c2) o1 (.inr (Nat.le_refl _))
                  have HF := halves_end HHV.out em mb2 (by omega) ndQ.out O0.out p1 o1 s1 (List.Perm.refl Q1) (fun _ _ => rfl) S2
                  have PF := p1.trans PQ.out
                  clear p1 o1 s1 S2
                  by_cases cd : mid < e
                  · have x1 : decide ((mid : Int) < (e : Int)) = true := by simp; omega
                    have x2 : decide ((e : Int) < (b : Int)) = false := by simp; omega
                    go_wp2_with fail
                    all_goals
                      go_end0
                      exact ⟨rfl, Q1, dq1, PF, HF.1, HF.2, g1⟩
                  · have x1 : decide ((mid : Int) < (e : Int)) = false := by simp; omega
                    go_wp2_with fail
                    all_goals
                      go_end0
                      exact ⟨rfl, Q1, dq1, PF, HF.1, HF.2, g1⟩
            · have S1 : Aside (SortedOn cf Q a mid) := HHV.out.h1' c1
              obtain ⟨Q1, hQ1⟩ : ∃ Q1, Q1 = Q := ⟨_, rfl⟩
              have dq1 : DataAt wr base g cap n Q1 := by rw [hQ1]; exact dq
              have p1 : Q1.Perm Q := by rw [hQ1]
              have o1 : SameOut Q1 Q a mid := fun k _ => by rw [hQ1]
              have s1 : SortedOn cf Q1 a mid := by rw [hQ1]; exact S1.out
              have g1 := gq'
              clear dq gq' hQ1
              by_cases cc : a < i
              · have u1 : decide ((a : Int) < (i : Int)) = true := by simp; omega
                have u2 : decide ((i : Int) < (mid : Int)) = false := by simp; omega
                by_cases c2 : mid < e ∧ e < b
                · have x1 : decide ((mid : Int) < (e : Int)) = true := by simp; omega
                  have x2 : decide ((e : Int) < (b : Int)) = true := by simp; omega
                  have M2 : Aside (Mrg cf Q1 mid e b) := (HHV.out.h2 c2).out p1.length_eq o1 (.inr (Nat.le_refl _))
                  have P1 : Aside _ := And.intro p1 (And.intro o1 s1)
                  clear p1 o1 s1
                  go_wp2_with fail
                  all_goals
                    refine (IH.out _ Q1 mid e b (by omega) dq1 g1 M2.out (P1.out.1.symm.nodup ndQ.out) (fun x hx => ltQ.out x (P1.out.1.mem_iff.1 hx))).mono ?_
                    rintro e7 w7 ⟨rfl, Q2, dq2, p2, o2, s2, g2⟩
                    have HF := halves_end HHV.out em mb2 (by omega) ndQ.out O0.out P1.out.1 P1.out.2.1 P1.out.2.2 p2 o2 s2
                    have PF := (p2.trans P1.out.1).trans PQ.out
                    clear p2 o2 s2 dq1 g1 x1 x2
                    go_wp2_with fail
                    all_goals
                      go_end0
                      exact ⟨rfl, Q2, dq2, PF, HF.1, HF.2, g2⟩
                · have S2 : SortedOn cf Q1 mid b := sorted_out (HHV.out.h2' c2) o1 (.inr (Nat.le_refl _))
                  have HF := halves_end HHV.out em mb2 (by omega) ndQ.out O0.out p1 o1 s1 (List.Perm.refl Q1) (fun _ _ => rfl) S2
                  have PF := p1.trans PQ.out
                  clear p1 o1 s1 S2
                  by_cases cd : mid < e
                  · have x1 : decide ((mid : Int) < (e : Int)) = true := by simp; omega
                    have x2 : decide ((e : Int) < (b : Int)) = false := by simp; omega
                    go_wp2_with fail
                    all_goals
                      go_end0
                      exact ⟨rfl, Q1, dq1, PF, HF.1, HF.2, g1⟩
                  · have x1 : decide ((mid : Int) < (e : Int)) = false := by simp; omega
                    go_wp2_with fail
                    all_goals
                      go_end0
                      exact ⟨rfl, Q1, dq1, PF, HF.1, HF.2, g1⟩
              · have u1 : decide ((a : Int) < (i : Int)) = false := by simp; omega
                by_cases c2 : mid < e ∧ e < b
                · have x1 : decide ((mid : Int) < (e : Int)) = true := by simp; omega
                  have x2 : decide ((e : Int) < (b : Int)) = true := by simp; omega
                  have M2 : Aside (Mrg cf Q1 mid e b) := (HHV.out.h2 c2).out p1.length_eq o1 (.inr (Nat.le_refl _))
                  have P1 : Aside _ := And.intro p1 (And.intro o1 s1)
                  clear p1 o1 s1
                  go_wp2_with fail
                  all_goals
                    refine (IH.out _ Q1 mid e b (by omega) dq1 g1 M2.out (P1.out.1.symm.nodup ndQ.out) (fun x hx => ltQ.out x (P1.out.1.mem_iff.1 hx))).mono ?_
                    rintro e7 w7 ⟨rfl, Q2, dq2, p2, o2, s2, g2⟩
                    have HF := halves_end HHV.out em mb2 (by omega) ndQ.out O0.out P1.out.1 P1.out.2.1 P1.out.2.2 p2 o2 s2
                    have PF := (p2.trans P1.out.1).trans PQ.out
                    clear p2 o2 s2 dq1 g1 x1 x2
                    go_wp2_with fail
                    all_goals
                      go_end0
                      exact ⟨rfl, Q2, dq2, PF, HF.1, HF.2, g2⟩
                · have S2 : SortedOn cf Q1 mid b := sorted_out (HHV.out.h2' c2) o1 (.inr (Nat.le_refl _))
                  have HF := halves_end HHV.out em mb2 (by omega) ndQ.out O0.out p1 o1 s1 (List.Perm.refl Q1) (fun _ _ => rfl) S2
                  have PF := p1.trans PQ.out
                  clear p1 o1 s1 S2
                  by_cases cd : mid < e
                  · have x1 : decide ((mid : Int) < (e : Int)) = true := by simp; omega
                    have x2 : decide ((e : Int) < (b : Int)) = false := by simp; omega
                    go_wp2_with fail
                    all_goals
                      go_end0
                      exact ⟨rfl, Q1, dq1, PF, HF.1, HF.2, g1⟩
                  · have x1 : decide ((mid : Int) < (e : Int)) = false := by simp; omega
                    go_wp2_with fail
                    all_goals
                      go_end0
                      exact ⟨rfl, Q1, dq1, PF, HF.1, HF.2, g1⟩
/-- symMerge. -/
theorem symMerge_any (w0 : World) (base g cap n K : Nat) (cb : Array Value) (cf : Nat → Nat → Int) (hcmp : CmpOK w0 g n K cb cf) (hK : ∀ a w, (callFunc K a).run Tryd.prog w = .ok (.enter K a) w) (hc : Pre cf) (hn : n ≤ 1000) :
    ∀ (d : Nat) (w : World) (P : List Nat) (a m b : Nat), b - a ≤ d → DataAt w base g cap n P → w0.grownBy w (some g) → Mrg cf P a m b → P.Nodup → (∀ x ∈ P, x < n) →
      Calls Tryd.prog 36 #[.slice (some ⟨g, 0, none⟩) n cap, .int .i64 a, .int .i64 m, .int .i64 b, .func (.func K) #[] cb] w fun e w' => e = .returned (.tuple #[]) ∧ ∃ P', DataAt w' base g cap n P' ∧ P'.Perm P ∧ SameOut P' P a b ∧ SortedOn cf P' a b ∧ w0.grownBy w' (some g) := by
  intro d
  induction d with
  | zero => intro w P a m b hd _ _ hM; have := hM.am; have := hM.mb; omega
  | succ d ih =>
    intro w P a m b hdd hd hg hM hnd hlt
    by_cases hA : m = a + 1
    · exact symA_any w0 base g cap n K cb cf hcmp hK hc hn w P a m b hd hg hM hlt hA
    · by_cases hB : b = m + 1
      · exact symB_any w0 base g cap n K cb cf hcmp hK hc hn w P a m b hd hg hM hlt hA hB
      · exact symC_any w0 base g cap n K cb cf hcmp hK hc hn w P a m b hd hg hM hnd hlt hA hB fun w P a' m' b' h => ih w P a' m' b' (by omega)

end Go.Proofs.YtalfeggddfpgeaaDoor
