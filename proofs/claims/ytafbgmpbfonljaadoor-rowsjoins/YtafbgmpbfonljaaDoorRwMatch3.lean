/- Match: the document's. -/
import Derived.Test.YtafbgmpbfonljaaDoorRwMatch2
namespace Go.Proofs.YtafbgmpbfonljaaDoor
open Go.RowKit Go.Sort

/-- Are two rows joined? -/
def hit (a b : Row) (i j : Int) : Bool := match jb a i with | none => false | some e => decide (jb b j = some e)
theorem mtP_succ {A B : List Row} {i j : Int} {k q : Nat} (hk : k < A.length) (hq : q < B.length) : mtP A B i j k (q + 1) = mtP A B i j k q ++ (if hit A[k] B[q] i j = true then [((k : Int), (q : Int))] else []) := by
  unfold mtP hit
  rw [show A.getD k [] = A[k] by simp [List.getD, hk], List.append_assoc]
  congr 1
  cases jb A[k] i with
  | none => simp
  | some e =>
    simp only
    rw [jps, show B.getD q [] = B[q] by simp [List.getD, hq]]
    cases jb B[q] j with
    | none => simp
    | some e' =>
      simp only
      rw [plc_snoc, List.map_append]
      by_cases c : e' = e
      · subst c; simp
      · have : ¬ some e' = some e := fun h => c (by simpa using h)
        simp [c]
theorem mtP_zero (A B : List Row) (i j : Int) (k : Nat) : mtP A B i j k 0 = mtR A B i j k := by
  unfold mtP
  split
  · simp
  · simp [jps, plc]
theorem mtP_all (A B : List Row) (i j : Int) (k : Nat) : mtP A B i j k B.length = mtR A B i j (k + 1) := rfl
theorem jb_out {r : Row} {c : Int} (h : ¬ (0 ≤ c ∧ c < r.length)) : jb r c = none := by unfold jb; rw [if_neg h]
theorem hit_left {a b : Row} {i j : Int} (h : ¬ (0 ≤ i ∧ i < a.length)) : hit a b i j = false := by unfold hit; rw [jb_out h]
theorem hit_right {a b : Row} {i j : Int} (h : ¬ (0 ≤ j ∧ j < b.length)) : hit a b i j = false := by
  unfold hit; rw [jb_out h]; cases jb a i <;> simp
theorem null_type {t n : Int} {s : ByteArray} (h : rightE t n s = 0) : isNull t n s = (t == 0) := by
  unfold isNull veq
  by_cases c : t = 0
  · subst c
    unfold rightE at h
    rw [if_pos rfl] at h
    by_cases d : n = 0 ∧ s.toList = []
    · simp [d.1, d.2]
    · rw [if_neg d] at h; omega
  · rw [show (t == 0) = false by simpa using c]; rfl
theorem jb_at {r : Row} {k : Nat} (hk : k < r.length) : jb r k = if isNull r[k].1 r[k].2.1 r[k].2.2 = true then none else some r[k] := by
  unfold jb; rw [if_pos (by omega)]; simp [List.getD, hk]
theorem veq_iff (e f : Ent) : veq e.1 e.2.1 e.2.2 f.1 f.2.1 f.2.2 = decide (e = f) := by
  have := sameV_iff e f
  unfold sameV at this
  rw [this]
  have h := good_ordE.zero e f
  by_cases c : e = f
  · subst c; rw [h.2 rfl]; simp
  · have : ¬ ordE e f = 0 := fun x => c (h.1 x)
    simp [c, this]
theorem hit_in {a b : Row} {p q : Nat} (hp : p < a.length) (hq : q < b.length) (hr : rightE a[p].1 a[p].2.1 a[p].2.2 = 0) : hit a b p q = (!(a[p].1 == 0) && veq a[p].1 a[p].2.1 a[p].2.2 b[q].1 b[q].2.1 b[q].2.2) := by
  unfold hit
  rw [jb_at hp, null_type hr, veq_iff]
  cases hz : (a[p].1 == 0)
  · simp only [Bool.false_eq_true, if_false, Bool.not_false, Bool.true_and]
    rw [jb_at hq]
    by_cases c : a[p] = b[q]
    · rw [← c, null_type hr, hz]; simp
    · have : ¬ b[q] = a[p] := fun h => c h.symm
      split <;> simp [c, this]
  · simp

set_option maxHeartbeats 8000000 in
theorem refMatch_any (w : World) (v u : Value) (A B : List Row) (i j : Int) (hA : LiesR w v A) (hB : LiesR w u B) (rA : RightL A) (la : A.length ≤ 40) (lb : B.length ≤ 40) (sB : Small B) (hi : inR i) (hj : inR j) :
    Calls Tryd.prog 24 #[v, u, .int .i64 i, .int .i64 j] w fun e w' => ∃ x, e = .returned x ∧ LiesQ w' x (mtR A B i j A.length) ∧ Below w.heap.size w w' := by
  obtain ⟨ao, ac, rfl, _, hac⟩ := hA
  obtain ⟨bo, bc, rfl, _, hbc⟩ := hB
  unfold inR at hi hj
  have HA : Aside _ := hac
  have HB : Aside _ := hbc
  clear hac hbc
  go_enter Tryd.func24, Tryd.ntmps24
  go_wp2_with fail
  go_loopw [9, 10] (fun x n wr => ∃ k : Nat, k ≤ A.length ∧ n = .int .i64 k ∧ OwnQ wr w.heap.size x (mtR A B i j k) ∧ Below w.heap.size w wr) (fun _ n _ => A.length - (intOf n).toNat)
  case atStart => exact ⟨0, Nat.zero_le _, rfl, OwnQ.nil _ _, Below.refl _ _⟩
  case round =>
    obtain ⟨k, hk, rfl, hown0, hbel⟩ := hrel
    by_cases hlt : k < A.length
    · have hkt : decide ((k : Int) < (A.length : Int)) = true := by simp; omega
      obtain ⟨ab, aof, x, rfl, c1, c2⟩ := HA.out k hlt
      obtain ⟨xo, xc, rfl, hxc⟩ := c2
      obtain ⟨hR, hR40⟩ := rA _ (List.getElem_mem hlt)
      have HRV : Aside (∀ e ∈ A[k], rightE e.1 e.2.1 e.2.2 = 0) := fun e he => (sound_of hR.1 hR.2 e he).1
      have HPS : Aside (∀ q (hq : q < B.length), mtP A B i j k (q + 1) = mtP A B i j k q ++ (if hit A[k] B[q] i j = true then [((k : Int), (q : Int))] else [])) := fun q hq => mtP_succ hlt hq
      have hml := mtR_length A B i j k
      have hml2 : k * B.length ≤ 40 * 40 := Nat.mul_le_mul (by omega) lb
      have HPL : Aside (∀ q, q ≤ B.length → (mtP A B i j k q).length ≤ 40 * 40 + 40) := fun q hq => by
        unfold mtP
        rw [List.length_append]
        split
        · simp; omega
        · rename_i e _
          have := plc_length (jps B j q) [e]
          have := jps_length B j q
          simp; omega
      have HXC : Aside _ := hxc
      clear hR hxc
      generalize A[k] = a at *
      go_wp2_with fail
      go_loopw [9, 11] (fun x n wr => ∃ q : Nat, q ≤ B.length ∧ n = .int .i64 q ∧ OwnQ wr w.heap.size x (mtP A B i j k q) ∧ Below w.heap.size w wr) (fun _ n _ => B.length - (intOf n).toNat)
      case atStart => exact ⟨0, Nat.zero_le _, rfl, by rw [mtP_zero]; exact hown0, hbel⟩
      case round =>
        clear hown0 hbel
        obtain ⟨q, hq, rfl, hown, hbq⟩ := hrel
        have hszq := hbq.size
        by_cases hqr : q < B.length
        · have hqt : decide ((q : Int) < (B.length : Int)) = true := by simp; omega
          have HP : Aside _ := HPS.out q hqr
          have hpl := HPL.out q (by omega)
          obtain ⟨bb, bof, y, rfl, d1, d2⟩ := HB.out q hqr
          obtain ⟨yo, yc, rfl, hyc⟩ := d2
          have h60b := sB.at hqr
          have HYC : Aside _ := hyc
          clear hyc
          generalize B[q] = b at *
          have e1 := cell_keep c1 hbq
          have e2 := cell_keep d1 hbq
          have u1 : ∀ d os, (grow (redrawn wr d) os).cell? ⟨ab, aof + k, none⟩ = some (.slice xo a.length xc) := fun d os => cell_regrown e1 d os
          have u2 : ∀ d os, (grow (redrawn wr d) os).cell? ⟨bb, bof + q, none⟩ = some (.slice yo b.length yc) := fun d os => cell_regrown e2 d os
          have z0 : (0 : Int) ≤ (k : Int) := by omega
          have z1 : (k : Int) < (A.length : Int) := by omega
          have z2 : (0 : Int) ≤ (q : Int) := by omega
          have z3 : (q : Int) < (B.length : Int) := by omega
          by_cases f1 : 0 ≤ i
          · have g1 : decide (0 ≤ i) = true := by simpa using f1
            by_cases f2 : i < a.length
            · have g2 : decide (i < (a.length : Int)) = true := by simpa using f2
              by_cases f3 : 0 ≤ j
              · have g3 : decide (0 ≤ j) = true := by simpa using f3
                by_cases f4 : j < b.length
                · have g4 : decide (j < (b.length : Int)) = true := by simpa using f4
                  obtain ⟨p, rfl⟩ : ∃ p : Nat, i = p := ⟨i.toNat, by omega⟩
                  obtain ⟨r, rfl⟩ : ∃ r : Nat, j = r := ⟨j.toNat, by omega⟩
                  have hp : p < a.length := by omega
                  have hr : r < b.length := by omega
                  obtain ⟨xb, xof, rfl, a1, a2, a3⟩ := lie_at HXC.out hbq hp
                  obtain ⟨yb, yof, rfl, b1, b2, b3⟩ := lie_at HYC.out hbq hr
                  have HH : Aside _ := hit_in hp hr (HRV.out _ (List.getElem_mem hp))
                  generalize a[p] = en at *
                  generalize b[r] = em at *
                  obtain ⟨t, n, s⟩ := en
                  obtain ⟨t', n', s'⟩ := em
                  simp only at a1 a2 a3 b1 b2 b3 HH
                  have v1 : ∀ d os, (grow (redrawn wr d) os).cell? ⟨xb, xof + p * 3, none⟩ = some (.int .i64 t) := fun d os => cell_regrown a1 d os
                  have v2 : ∀ d os, (grow (redrawn wr d) os).cell? ⟨xb, xof + p * 3 + 1, none⟩ = some (.int .i64 n) := fun d os => cell_regrown a2 d os
                  have v3 : ∀ d os, (grow (redrawn wr d) os).cell? ⟨xb, xof + p * 3 + 2, none⟩ = some (.string s) := fun d os => cell_regrown a3 d os
                  have v4 : ∀ d os, (grow (redrawn wr d) os).cell? ⟨yb, yof + r * 3, none⟩ = some (.int .i64 t') := fun d os => cell_regrown b1 d os
                  have v5 : ∀ d os, (grow (redrawn wr d) os).cell? ⟨yb, yof + r * 3 + 1, none⟩ = some (.int .i64 n') := fun d os => cell_regrown b2 d os
                  have v6 : ∀ d os, (grow (redrawn wr d) os).cell? ⟨yb, yof + r * 3 + 2, none⟩ = some (.string s') := fun d os => cell_regrown b3 d os
                  have w0 : (0 : Int) ≤ (p : Int) := by omega
                  have w1 : (p : Int) < (a.length : Int) := by omega
                  have w2 : (0 : Int) ≤ (r : Int) := by omega
                  have w3 : (r : Int) < (b.length : Int) := by omega
                  have g2n : decide (p < a.length) = true := by simp; omega
                  have g4n : decide (r < b.length) = true := by simp; omega
                  have hve := run_veq
                  cases ht : (t == 0)
                  · have htn : (t != 0) = true := by simp [bne, ht]
                    rw [ht] at HH
                    have hll : (mtP A B p r k q).length + [((k : Int), (q : Int))].length ≤ 1000000000 := by simp; omega
                    cases hz : veq t n s t' n' s'
                    · have hh : hit a b p r = false := by rw [HH.out, hz]; rfl
                      have HP2 : Aside (mtP A B p r k (q + 1) = mtP A B p r k q) := by show _ = _; rw [HP.out, hh]; simp
                      clear HP
                      go_wp2_with fail
                      refine wp_region_quiet_below (by kernel_rfl) (by kernel_rfl) ?_
                      repeat (first | go_big_quiet_step (fail) | quiet_step (fail))
                      refine wpQuiet_nil ?_
                      rintro _ ⟨⟨dq, osq⟩, rfl⟩
                      have hb := below_regrown wr dq osq
                      generalize grow (redrawn wr dq) osq = w4 at hb ⊢
                      go_wp2_with fail
                      go_roundw
                      case rel => exact ⟨q + 1, by omega, by go_num, by rw [HP2.out]; exact hown.keep hb, btrans hbq hb⟩
                      case measure => simp [intOf]; omega
                    · have hh : hit a b p r = true := by rw [HH.out, hz]; rfl
                      have HP2 : Aside (mtP A B p r k (q + 1) = mtP A B p r k q ++ [((k : Int), (q : Int))]) := by show _ = _; rw [HP.out, hh]; simp
                      clear HP
                      go_wp2_with fail
                      refine wp_region_quiet_below (by kernel_rfl) (by kernel_rfl) ?_
                      repeat (first | go_big_quiet_step (fail) | quiet_step (fail))
                      refine wpQuiet_nil ?_
                      rintro _ ⟨⟨dq, osq⟩, rfl⟩
                      have hb := below_regrown wr dq osq
                      generalize grow (redrawn wr dq) osq = w4 at hb ⊢
                      have hown2 := hown.keep hb
                      have hsz2 := Nat.le_trans hszq hb.size
                      clear v1 v2 v3 v4 v5 v6 u1 u2 hve hown
                      go_wp2_with (at_builtin; refine wpList_pushQ (.tmp 76) (.tmp 80) rfl rfl rfl hown2 hsz2 [((k : Int), (q : Int))] rfl rfl (by first | rfl | simp) hll ?_; intro v6 w6 hr6 hb6)
                      go_roundw
                      case rel => exact ⟨q + 1, by omega, by go_num, by rw [HP2.out]; exact hr6, (btrans hbq hb).trans hb6⟩
                      case measure => simp [intOf]; omega
                  · have htn : (t != 0) = false := by simp [bne, ht]
                    have hh : hit a b p r = false := by rw [HH.out, ht]; rfl
                    have HP2 : Aside (mtP A B p r k (q + 1) = mtP A B p r k q) := by show _ = _; rw [HP.out, hh]; simp
                    clear HP
                    go_wp2_with fail
                    refine wp_region_quiet_below (by kernel_rfl) (by kernel_rfl) ?_
                    repeat (first | go_big_quiet_step (fail) | quiet_step (fail))
                    refine wpQuiet_nil ?_
                    rintro _ ⟨⟨dq, osq⟩, rfl⟩
                    have hb := below_regrown wr dq osq
                    generalize grow (redrawn wr dq) osq = w4 at hb ⊢
                    go_wp2_with fail
                    go_roundw
                    case rel => exact ⟨q + 1, by omega, by go_num, by rw [HP2.out]; exact hown.keep hb, btrans hbq hb⟩
                    case measure => simp [intOf]; omega
                · have g4 : decide (j < (b.length : Int)) = false := by simpa using f4
                  have hh : hit a b i j = false := hit_right (by omega)
                  have HP2 : Aside (mtP A B i j k (q + 1) = mtP A B i j k q) := by show _ = _; rw [HP.out, hh]; simp
                  clear HP
                  go_wp2_with fail
                  refine wp_region_quiet_below (by kernel_rfl) (by kernel_rfl) ?_
                  repeat (first | go_big_quiet_step (fail) | quiet_step (fail))
                  refine wpQuiet_nil ?_
                  rintro _ ⟨⟨dq, osq⟩, rfl⟩
                  have hb := below_regrown wr dq osq
                  generalize grow (redrawn wr dq) osq = w4 at hb ⊢
                  go_wp2_with fail
                  go_roundw
                  case rel => exact ⟨q + 1, by omega, by go_num, by rw [HP2.out]; exact hown.keep hb, btrans hbq hb⟩
                  case measure => simp [intOf]; omega
              · have g3 : decide (0 ≤ j) = false := by simpa using f3
                have hh : hit a b i j = false := hit_right (by omega)
                have HP2 : Aside (mtP A B i j k (q + 1) = mtP A B i j k q) := by show _ = _; rw [HP.out, hh]; simp
                clear HP
                go_wp2_with fail
                refine wp_region_quiet_below (by kernel_rfl) (by kernel_rfl) ?_
                repeat (first | go_big_quiet_step (fail) | quiet_step (fail))
                refine wpQuiet_nil ?_
                rintro _ ⟨⟨dq, osq⟩, rfl⟩
                have hb := below_regrown wr dq osq
                generalize grow (redrawn wr dq) osq = w4 at hb ⊢
                go_wp2_with fail
                go_roundw
                case rel => exact ⟨q + 1, by omega, by go_num, by rw [HP2.out]; exact hown.keep hb, btrans hbq hb⟩
                case measure => simp [intOf]; omega
            · have g2 : decide (i < (a.length : Int)) = false := by simpa using f2
              have hh : hit a b i j = false := hit_left (by omega)
              have HP2 : Aside (mtP A B i j k (q + 1) = mtP A B i j k q) := by show _ = _; rw [HP.out, hh]; simp
              clear HP
              go_wp2_with fail
              refine wp_region_quiet_below (by kernel_rfl) (by kernel_rfl) ?_
              repeat (first | go_big_quiet_step (fail) | quiet_step (fail))
              refine wpQuiet_nil ?_
              rintro _ ⟨⟨dq, osq⟩, rfl⟩
              have hb := below_regrown wr dq osq
              generalize grow (redrawn wr dq) osq = w4 at hb ⊢
              go_wp2_with fail
              go_roundw
              case rel => exact ⟨q + 1, by omega, by go_num, by rw [HP2.out]; exact hown.keep hb, btrans hbq hb⟩
              case measure => simp [intOf]; omega
          · have g1 : decide (0 ≤ i) = false := by simpa using f1
            have hh : hit a b i j = false := hit_left (by omega)
            have HP2 : Aside (mtP A B i j k (q + 1) = mtP A B i j k q) := by show _ = _; rw [HP.out, hh]; simp
            clear HP
            go_wp2_with fail
            refine wp_region_quiet_below (by kernel_rfl) (by kernel_rfl) ?_
            repeat (first | go_big_quiet_step (fail) | quiet_step (fail))
            refine wpQuiet_nil ?_
            rintro _ ⟨⟨dq, osq⟩, rfl⟩
            have hb := below_regrown wr dq osq
            generalize grow (redrawn wr dq) osq = w4 at hb ⊢
            go_wp2_with fail
            go_roundw
            case rel => exact ⟨q + 1, by omega, by go_num, by rw [HP2.out]; exact hown.keep hb, btrans hbq hb⟩
            case measure => simp [intOf]; omega
        · have hqt : decide ((q : Int) < (B.length : Int)) = false := by simp; omega
          have hqq : q = B.length := by omega
          subst hqq
          rw [mtP_all] at hown
          go_wp2_with fail
          go_roundw
          case rel => exact ⟨k + 1, by omega, by go_num, hown, hbq⟩
          case measure => simp [intOf]; omega
    · have hkt : decide ((k : Int) < (A.length : Int)) = false := by simp; omega
      have hkk : k = A.length := by omega
      subst hkk
      go_wp2_with fail
      go_ret
      exact ⟨_, rfl, hown0.lies, hbel⟩

end Go.Proofs.YtafbgmpbfonljaaDoor
