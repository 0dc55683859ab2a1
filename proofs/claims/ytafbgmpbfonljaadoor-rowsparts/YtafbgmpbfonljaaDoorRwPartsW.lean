/- The law RowsParts, walked. -/
import Derived.Test.YtafbgmpbfonljaaDoorRwSetsW
namespace Go.Proofs.YtafbgmpbfonljaaDoor
open Go.RowKit Go.Sort

theorem parts_length (A B : List Row) : (partR A B false).length + (partR A B true).length = (distR A).length := by
  unfold partR
  generalize distR A = D
  induction D with
  | nil => rfl
  | cons r D ih => cases h : memB B r <;> simp [h] at ih ⊢ <;> omega
theorem mem_part {A B : List Row} {r : Row} (s : Bool) (h : r ∈ distR A) : memB (partR A B s) r = (memB B r == s) := by
  cases hs : (memB B r == s)
  · rw [memB_false]; intro hm; have := (List.mem_filter.1 hm).2; rw [hs] at this; cases this
  · exact (memB_iff _ _).2 (List.mem_filter.2 ⟨h, hs⟩)
theorem fold_dist (O : List Row) (B : List Row) : ∀ k, k ≤ B.length → (B.take k).foldl distF O = O ++ (distR (B.take k)).filter fun r => !memB O r
  | 0, _ => by simp [distR]
  | k + 1, hk => by
    have ih := fold_dist O B k (by omega)
    have hkl : k < B.length := by omega
    have hd := distR_take hkl
    rw [hd, List.take_succ_eq_append_getElem hkl, List.foldl_append, ih]
    generalize B[k] = r at *
    simp only [List.foldl_cons, List.foldl_nil, distF]
    have hm : memB (O ++ (distR (B.take k)).filter fun r => !memB O r) r = (memB O r || memB (B.take k) r) := by
      have h1 := memB_iff (O ++ (distR (B.take k)).filter fun r => !memB O r) r
      have h2 := memB_iff O r
      have h3 := memB_iff (B.take k) r
      have h4 := mem_distR (B.take k) r
      cases c1 : memB O r <;> cases c2 : memB (B.take k) r
      · show memB _ r = false
        rw [memB_false]; intro h; rcases List.mem_append.1 h with h | h
        · rw [h2.2 h] at c1; cases c1
        · rw [h3.2 (h4.1 (List.mem_filter.1 h).1)] at c2; cases c2
      · exact h1.2 (List.mem_append_right _ (List.mem_filter.2 ⟨h4.2 (h3.1 c2), by rw [c1]; rfl⟩))
      · exact h1.2 (List.mem_append_left _ (h2.1 c1))
      · exact h1.2 (List.mem_append_left _ (h2.1 c1))
    rw [hm]
    cases c1 : memB O r <;> cases c2 : memB (B.take k) r <;> simp [c1, List.filter_append]
theorem dist_append (A B : List Row) : distR (A ++ B) = distR A ++ partR B A false := by
  have h := fold_dist (distR A) B B.length (Nat.le_refl _)
  rw [List.take_length] at h
  unfold partR
  have e : distR (A ++ B) = B.foldl distF (distR A) := by unfold distR; rw [List.foldl_append]
  rw [e, h]
  congr 1
  apply List.filter_congr
  intro r _
  rw [memB_congr (mem_distR A r)]
  cases memB A r <;> rfl
theorem dist_nodup : ∀ {L : List Row} (O : List Row), (∀ r ∈ L, ¬ r ∈ O) → L.Nodup → L.foldl distF O = O ++ L
  | [], O, _, _ => by simp
  | r :: L, O, h, hn => by
    have hn' := List.nodup_cons.1 hn
    rw [List.foldl_cons, distF, if_neg (by rw [memB_iff]; exact h r (List.mem_cons_self ..)), dist_nodup (O ++ [r]) _ hn'.2]
    · simp
    · intro x hx hm
      rcases List.mem_append.1 hm with hm | hm
      · exact h x (List.mem_cons_of_mem _ hx) hm
      · rw [List.mem_singleton.1 hm] at hx; exact hn'.1 hx
theorem dist_idem (L : List Row) : distR (distR L) = distR L := by
  have := dist_nodup (L := distR L) [] (fun _ _ h => by cases h) (nodup_distR L)
  simpa [distR] using this
theorem RightL.of_mem {L M : List Row} (h : RightL L) (hm : ∀ r ∈ M, r ∈ L) : RightL M := fun r hr => h r (hm r hr)

set_option maxRecDepth 100000 in
set_option maxHeartbeats 8000000 in
theorem rowsParts_any (v u : Value) (A B : List Row) (w : World) (hA : LiesR w v A) (hB : LiesR w u B) (iA : ∀ r ∈ A, ∀ e ∈ r, inR e.1 ∧ inR e.2.1) (iB : ∀ r ∈ B, ∀ e ∈ r, inR e.1 ∧ inR e.2.1) :
    Calls Tryd.prog 6 #[v, u] w fun e w' => e = .returned (.bool true) ∧ Below w.heap.size w w' := by
  obtain ⟨ao, ac, hv, _, _⟩ := id hA
  obtain ⟨bo, bc, hu, _, _⟩ := id hB
  have hf := few_any _ _ [A, B] (LiesLL.two hA hB) (by simp)
  rw [fewR_two] at hf
  subst hv hu
  cases hz : (okL A && okL B)
  · rw [hz] at hf
    clear hA hB
    go_enter Tryd.func6, Tryd.ntmps6
    go_wp2_with fail
    refine hf.mono ?_
    rintro e w1 ⟨rfl, b1⟩
    go_wp2_with fail
    refine (alive_any _).mono ?_
    rintro e w2 ⟨rfl, b2⟩
    go_wp2_with fail
    go_ret
    exact ⟨rfl, btrans (bnew b1) b2⟩
  · rw [hz] at hf
    rw [Bool.and_eq_true] at hz
    obtain ⟨rA, lA⟩ := right_of_ok hz.1 iA
    obtain ⟨rB, lB⟩ := right_of_ok hz.2 iB
    have sA := rA.small
    have sB := rB.small
    have hdA := distR_length_le A
    have hdU := distR_length_le (A ++ B)
    rw [List.length_append] at hdU
    have sAB : Small (A ++ B) := fun r hr => by rcases List.mem_append.1 hr with h | h; exact sA r h; exact sB r h
    have rAB : RightL (A ++ B) := fun r hr => by rcases List.mem_append.1 hr with h | h; exact rA r h; exact rB r h
    clear hz iA iB
    go_enter Tryd.func6, Tryd.ntmps6
    go_wp2_with fail
    refine hf.mono ?_
    rintro e w1 ⟨rfl, b1⟩
    have k1 := bnew b1
    clear hf b1
    go_wp2_with fail
    refine (distinct_any _ _ A (hA.keep k1) rA (by omega)).mono ?_
    rintro e w2 ⟨x2, rfl, l2, b2⟩
    have k2 := btrans k1 b2
    go_wp2_with fail
    refine (except_any _ _ _ A B (hA.keep k2) (hB.keep k2) rA rB (by omega) (by omega)).mono ?_
    rintro e w3 ⟨x3, rfl, l3, b3⟩
    have k3 := btrans k2 b3
    go_wp2_with fail
    refine (intersect_any _ _ _ A B (hA.keep k3) (hB.keep k3) rA rB (by omega) (by omega)).mono ?_
    rintro e w4 ⟨x4, rfl, l4, b4⟩
    have k4 := btrans k3 b4
    go_wp2_with fail
    refine (union_any _ _ _ A B (hA.keep k4) (hB.keep k4) rA rB (by omega) (by omega)).mono ?_
    rintro e w5 ⟨x5, rfl, l5, b5⟩
    have k5 := btrans k4 b5
    have m2 := ((l2.keep b3).keep b4).keep b5
    have m3 := (l3.keep b4).keep b5
    have m4 := l4.keep b5
    have mA := hA.keep k5
    have mB := hB.keep k5
    clear l2 l3 l4 b2 b3 b4 b5 k1 k2 k3 k4 hA hB
    have hpl := parts_length A B
    have HPX : Aside (∀ r ∈ distR A, memB (partR A B false) r = !memB B r) := fun r hr => by rw [mem_part false hr]; cases memB B r <;> rfl
    have HPY : Aside (∀ r ∈ distR A, memB (partR A B true) r = memB B r) := fun r hr => by rw [mem_part true hr]; cases memB B r <;> rfl
    have HPU : Aside (∀ r ∈ distR A, memB (distR (A ++ B)) r = true) := fun r hr => (memB_iff _ _).2 ((mem_distR _ _).2 (List.mem_append_left _ ((mem_distR _ _).1 hr)))
    have HPV : Aside (∀ r ∈ distR (A ++ B), memB A r = false → memB B r = true) := fun r hr h => by
      rcases List.mem_append.1 ((mem_distR _ _).1 hr) with hm | hm
      · rw [(memB_iff _ _).2 hm] at h; cases h
      · exact (memB_iff _ _).2 hm
    have hul : (distR (A ++ B)).length = (distR A).length + (partR B A false).length := by rw [dist_append, List.length_append]
    have HID : Aside (distR (distR (A ++ B)) = distR (A ++ B)) := dist_idem _
    have sX : Small (partR A B false) := small_part sA
    have sY : Small (partR A B true) := small_part sA
    have sD := sA.dist
    have sU := sAB.dist
    have rU : RightL (distR (A ++ B)) := rAB.of_mem fun r hr => (mem_distR _ _).1 hr
    have hpX := part_length A B false
    have hpY := part_length A B true
    have hpB := part_length B A false
    have hnX : partR B A false = partR B A false := rfl
    generalize hD : distR A = D at *
    generalize hX : partR A B false = X at *
    generalize hY : partR A B true = Y at *
    generalize hU : distR (A ++ B) = U at *
    have HH : Aside _ := And.intro hD (And.intro hX (And.intro hY hU))
    clear hD hX hY hU hnX sAB rAB
    obtain ⟨dao, dac, rfl, _, hdc⟩ := id m2
    obtain ⟨xao, xac, rfl, _, _⟩ := id m3
    obtain ⟨yao, yac, rfl, _, _⟩ := id m4
    obtain ⟨uao, uac, rfl, _, huc⟩ := id l5
    have hsum : ((X.length : Int) + (Y.length : Int) != (D.length : Int)) = false := by simp; omega
    have HUL : Aside _ := hul
    clear hul hpl
    have HDC : Aside _ := hdc
    have HUC : Aside _ := huc
    clear hdc huc
    go_wp2_with fail
    go_loopw [40] (fun i wr => ∃ k : Nat, k ≤ D.length ∧ i = .int .i64 k ∧ Below w5.heap.size w5 wr) (fun i _ => D.length - (intOf i).toNat)
    case atStart => exact ⟨0, Nat.zero_le _, rfl, Below.refl _ _⟩
    case round =>
      obtain ⟨k, hk, rfl, hbel⟩ := hrel
      by_cases hlt : k < D.length
      · have hkt : decide ((k : Int) < (D.length : Int)) = true := by simp; omega
        obtain ⟨b, off, x, rfl, c1, c2⟩ := lieR_at HDC.out hbel hlt
        have hm : D[k] ∈ D := List.getElem_mem hlt
        have e1 := HPX.out _ hm
        have e2 := HPY.out _ hm
        have e3 := HPU.out _ hm
        generalize D[k] = r at c1 c2 e1 e2 e3
        clear hm
        cases hb : memB B r
        all_goals
          rw [hb] at e1 e2
          go_wp2_with fail
          refine (in_any _ _ _ X r (m3.keep hbel) c2 (by omega) sX).mono ?_
          rintro e y1 ⟨rfl, b1⟩
          rw [e1]
          have n1 := btrans hbel b1
          go_wp2_with fail
          refine (in_any _ _ _ Y r (m4.keep n1) (c2.keep b1) (by omega) sY).mono ?_
          rintro e y2 ⟨rfl, b2⟩
          rw [e2]
          have n2 := btrans n1 b2
          have d2 := (c2.keep b1).keep b2
          clear b1 b2 n1 c1 c2
          go_wp2_with fail
          refine (in_any _ _ _ Y r (m4.keep n2) d2 (by omega) sY).mono ?_
          rintro e y3 ⟨rfl, b3⟩
          rw [e2]
          have n3 := btrans n2 b3
          have d3 := d2.keep b3
          clear b3 n2 d2
          go_wp2_with fail
          refine (in_any _ _ _ B r (mB.keep n3) d3 (by omega) sB).mono ?_
          rintro e y4 ⟨rfl, b4⟩
          rw [hb]
          have n4 := btrans n3 b4
          have d4 := d3.keep b4
          clear b4 n3 d3
          go_wp2_with fail
          refine (in_any _ _ _ U r (l5.keep n4) d4 (by omega) sU).mono ?_
          rintro e y5 ⟨rfl, b5⟩
          rw [e3]
          have n5 := btrans n4 b5
          clear b5 n4 d4
          go_wp2_with fail
          go_roundw
          case rel => exact ⟨k + 1, by omega, by go_num, n5⟩
          case measure => simp [intOf]; omega
      · have hkt : decide ((k : Int) < (D.length : Int)) = false := by simp; omega
        have hkk : k = D.length := by omega
        subst hkk
        go_wp2_with fail
        go_loopw [69] (fun i wr => ∃ k : Nat, k ≤ U.length ∧ i = .int .i64 k ∧ Below w5.heap.size w5 wr) (fun i _ => U.length - (intOf i).toNat)
        case atStart => exact ⟨0, Nat.zero_le _, rfl, hbel⟩
        case round =>
          clear hbel
          obtain ⟨k, hk, rfl, hbel⟩ := hrel
          by_cases hlt : k < U.length
          · have hkt : decide ((k : Int) < (U.length : Int)) = true := by simp; omega
            obtain ⟨b, off, x, rfl, c1, c2⟩ := lieR_at HUC.out hbel hlt
            have e1 := HPV.out _ (List.getElem_mem hlt)
            generalize U[k] = r at c1 c2 e1
            cases ha : memB A r
            · have e2 := e1 ha
              go_wp2_with fail
              refine (in_any _ _ _ A r (mA.keep hbel) c2 (by omega) sA).mono ?_
              rintro e y1 ⟨rfl, b1⟩
              rw [ha]
              have n1 := btrans hbel b1
              go_wp2_with fail
              refine (in_any _ _ _ B r (mB.keep n1) (c2.keep b1) (by omega) sB).mono ?_
              rintro e y2 ⟨rfl, b2⟩
              rw [e2]
              have n2 := btrans n1 b2
              clear b1 b2 n1 c1 c2
              go_wp2_with fail
              go_roundw
              case rel => exact ⟨k + 1, by omega, by go_num, n2⟩
              case measure => simp [intOf]; omega
            · go_wp2_with fail
              refine (in_any _ _ _ A r (mA.keep hbel) c2 (by omega) sA).mono ?_
              rintro e y1 ⟨rfl, b1⟩
              rw [ha]
              have n1 := btrans hbel b1
              clear b1 c1 c2
              go_wp2_with fail
              go_roundw
              case rel => exact ⟨k + 1, by omega, by go_num, n1⟩
              case measure => simp [intOf]; omega
          · have hkt : decide ((k : Int) < (U.length : Int)) = false := by simp; omega
            go_wp2_with fail
            refine (distinct_any _ _ U (l5.keep hbel) rU (by omega)).mono ?_
            rintro e z1 ⟨q1, rfl, p1, b1⟩
            rw [HID.out] at p1
            obtain ⟨pa, pc, rfl, _, _⟩ := p1
            have n1 := btrans hbel b1
            have hee : ((U.length : Int) == (U.length : Int)) = true := by simp
            go_wp2_with fail
            refine (except_any _ _ _ B A (mB.keep n1) (mA.keep n1) rB rA (by omega) (by omega)).mono ?_
            rintro e z2 ⟨q2, rfl, p2, b2⟩
            obtain ⟨pa2, pc2, rfl, hq1, hq2⟩ := p2
            clear hq1 hq2
            have n2 := btrans n1 b2
            have hul := HUL.out
            clear HUL
            generalize (partR B A false).length = pl at hul ⊢
            go_wp2_with fail
            refine (alive_any _).mono ?_
            rintro e z3 ⟨rfl, b3⟩
            go_wp2_with fail
            go_ret
            exact ⟨rfl, btrans k5 (btrans n2 b3)⟩

end Go.Proofs.YtafbgmpbfonljaaDoor
