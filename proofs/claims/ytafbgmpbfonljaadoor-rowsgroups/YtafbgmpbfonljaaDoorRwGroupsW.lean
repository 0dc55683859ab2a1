/- The law RowsGroups, walked. -/
import Derived.Test.YtafbgmpbfonljaaDoorRwGroups
import Derived.Test.YtafbgmpbfonljaaDoorRwAlive
namespace Go.Proofs.YtafbgmpbfonljaaDoor
open Go.RowKit Go.Sort

/-- v is a slice of lists of numbers and holds G; its capacity is no less. -/
def LiesH (w : World) (v : Value) (G : List (List Int)) : Prop :=
  ∃ ao cap, v = .slice ao G.length cap ∧ G.length ≤ cap ∧ ∀ i (h : i < G.length), ∃ b off r, ao = some ⟨b, off, none⟩ ∧ w.cell? ⟨b, off + i, none⟩ = some r ∧ LiesN w r G[i]
theorem LiesH.keep {w w' : World} {v : Value} {G : List (List Int)} (h : LiesH w v G) (k : Below w.heap.size w w') : LiesH w' v G := by
  obtain ⟨ao, cap, rfl, h2, hc⟩ := h
  refine ⟨ao, cap, rfl, h2, fun i hi => ?_⟩
  obtain ⟨b, off, r, h0, h1, h2⟩ := hc i hi
  exact ⟨b, off, r, h0, cell_keep h1 k, h2.keep k⟩
set_option maxHeartbeats 1000000 in
theorem groupsH_any (w : World) (v : Value) (L : List Row) (hl : LiesR w v L) (hr : RightL L) (hlen : L.length ≤ 1000) :
    Calls Tryd.prog 20 #[v] w fun e w' => ∃ u, e = .returned u ∧ LiesH w' u (grpR L) ∧ Below w.heap.size w w' := by
  go_enter Tryd.func20, Tryd.ntmps20
  go_wp2_with (go_at_call 33; refine (shelved_any _ _ L hl hr hlen).mono ?_; rintro e w1 ⟨pb, rfl, hs1, hb1⟩; obtain ⟨mb, n, pl, vs, h1, h2, h3, h4, h5, h6, h7⟩ := hs1; have p1 : w1.cell? ⟨pb, 1, none⟩ = some pl := (by rw [cell_of_row _ _ _ _ _ _ h1]; rfl); have W : Aside _ := And.intro h6 h7; clear h1 h2 h3 h4 h5 h6 h7)
  go_ret
  refine ⟨_, rfl, ?_, hb1⟩
  obtain ⟨h6, h7⟩ := W.out
  rw [← grp_shP hr]
  obtain ⟨ao, cap, h0, hcap, hc⟩ := h6.lies
  refine ⟨ao, cap, by rw [h0, h7.1, List.length_map]; rfl, by rw [List.length_map, ← h7.1]; exact hcap.2, fun i hi => ?_⟩
  have hiS : i < (shP (enumR L L.length)).length := by simpa using hi
  have hiV : i < vs.length := by rw [h7.1]; exact hiS
  obtain ⟨b, off, g1, g2⟩ := hc i hiV
  refine ⟨b, off, _, g1, g2, ?_⟩
  simpa using (h7.2.1 i hiV hiS).lies.ints

/-- The cells of a list of numbers that is not empty. -/
theorem LiesN.at {w : World} {v : Value} {l : List Int} (h : LiesN w v l) (hl : 0 < l.length) : ∃ b off c, v = .slice (some ⟨b, off, none⟩) l.length c ∧ ∀ k (h : k < l.length), w.cell? ⟨b, off + k, none⟩ = some (.int .i64 l[k]) := by
  obtain ⟨ao, cap, rfl, _, hc⟩ := h
  obtain ⟨b, off, rfl, _⟩ := hc 0 hl
  refine ⟨b, off, cap, rfl, fun k hk => ?_⟩
  obtain ⟨b', off', e, hcell⟩ := hc k hk
  simp only [Option.some.injEq, Addr.mk.injEq] at e
  obtain ⟨rfl, rfl, _⟩ := e
  exact hcell
theorem fewR_one (A : List Row) : fewR [A] = okL A := by simp [fewR]
theorem LiesLL.one {w : World} {v : Value} {A : List Row} (hA : LiesR w v A) : LiesLL (w.alloc (.cells #[v] 22)) (.slice (some ⟨w.heap.size, 0, none⟩) 1 1) [A] := by
  have hk : Below w.heap.size w (w.alloc (.cells #[v] 22)) := (Below.refl _ _).alloc (Nat.le_refl _) _
  refine ⟨_, 1, rfl, fun i hi => ⟨w.heap.size, 0, ?_⟩⟩
  match i, hi with
  | 0, _ => exact ⟨v, rfl, by simp [go_sem], hA.keep hk⟩
theorem sum_take {G : List (List Int)} {i : Nat} (h : i < G.length) : ((G.take (i + 1)).map List.length).sum = ((G.take i).map List.length).sum + G[i].length := by
  rw [List.take_succ_eq_append_getElem h, List.map_append, List.sum_append]; simp
theorem sum_take_le (G : List (List Int)) (i : Nat) : ((G.take i).map List.length).sum ≤ (G.map List.length).sum := by
  have : G.map List.length = (G.take i).map List.length ++ (G.drop i).map List.length := by rw [← List.map_append, List.take_append_drop]
  rw [this, List.sum_append]; omega
theorem headD_zero {l : List Int} (h : 0 < l.length) : l.headD 0 = l[0] := by
  cases l with
  | nil => simp at h
  | cons a l => rfl
theorem grp_count {L : List Row} {G : List (List Int)} (h : Grp L G) : G.length ≤ L.length := by
  have h1 := h.tot
  have : G.length ≤ (G.map List.length).sum := by
    have hn : ∀ g ∈ G, 0 < g.length := fun g hg => by obtain ⟨i, hi, rfl⟩ := List.mem_iff_getElem.1 hg; exact h.ne i hi
    clear h h1
    induction G with
    | nil => simp
    | cons g G ih =>
      have := hn g (List.mem_cons_self ..)
      have := ih fun x hx => hn x (List.mem_cons_of_mem _ hx)
      simp; omega
  omega

set_option maxRecDepth 100000 in
set_option maxHeartbeats 8000000 in
theorem rowsGroups_any (v : Value) (L : List Row) (w : World) (hL : LiesR w v L) (iL : ∀ r ∈ L, ∀ e ∈ r, inR e.1 ∧ inR e.2.1) :
    Calls Tryd.prog 8 #[v] w fun e w' => e = .returned (.bool true) ∧ Below w.heap.size w w' := by
  obtain ⟨ao, ac, hv, _, _⟩ := id hL
  have hf := few_any _ _ [L] (LiesLL.one hL) (by simp)
  rw [fewR_one] at hf
  subst hv
  cases hz : okL L
  · rw [hz] at hf
    clear hL
    go_enter Tryd.func8, Tryd.ntmps8
    go_wp2_with fail
    refine hf.mono ?_
    rintro e w1 ⟨rfl, b1⟩
    go_wp2_with fail
    refine (alive_any _).mono ?_
    rintro e w2 ⟨rfl, b2⟩
    go_wp2_with fail
    go_ret
    exact ⟨rfl, btrans (bnew b1) b2⟩
  · rw [hz] at hf
    obtain ⟨rL, lL⟩ := right_of_ok hz iL
    have sL := rL.small
    clear hz iL
    go_enter Tryd.func8, Tryd.ntmps8
    go_wp2_with fail
    refine hf.mono ?_
    rintro e w1 ⟨rfl, b1⟩
    have k1 := bnew b1
    clear hf b1
    go_wp2_with fail
    refine (groupsH_any _ _ L (hL.keep k1) rL (by omega)).mono ?_
    rintro e w2 ⟨u, rfl, lu, b2⟩
    have k2 := btrans k1 b2
    have GK : Aside (Grp L (grpR L)) := grp_ok L
    have hgc := grp_count GK.out
    generalize grpR L = G at lu GK hgc
    obtain ⟨go', gc, rfl, hcap, hg⟩ := lu
    have mL := hL.keep k2
    obtain ⟨_, _, hve, _, hLc⟩ := mL
    simp only [Value.slice.injEq] at hve
    obtain ⟨rfl, _, rfl⟩ := hve
    have HLC : Aside _ := hLc
    have HGC : Aside _ := hg
    clear hL k1 b2 hLc hg rL
    go_wp2_with fail
    go_loopw [4, 20] (fun n i wr => ∃ k : Nat, k ≤ G.length ∧ i = .int .i64 k ∧ n = .int .i64 (((G.take k).map List.length).sum : Int) ∧ Below w2.heap.size w2 wr) (fun _ i _ => G.length - (intOf i).toNat)
    case atStart => exact ⟨0, Nat.zero_le _, rfl, by simp, Below.refl _ _⟩
    case round =>
      obtain ⟨i, hi, rfl, rfl, hbel⟩ := hrel
      by_cases hlt : i < G.length
      · have hkt : decide ((i : Int) < (G.length : Int)) = true := by simp; omega
        obtain ⟨ub, uo, gv, rfl, hgv, lgv⟩ := HGC.out i hlt
        have hgv' := cell_keep hgv hbel
        have hgl := GK.out.ne i hlt
        have hst := sum_take hlt
        have hsl := sum_take_le G (i + 1)
        rw [GK.out.tot, hst] at hsl
        have HST : Hid _ := hst
        clear hst
        generalize ((G.take i).map List.length).sum = S at HST hsl ⊢
        have HIN : Aside (∀ z ∈ G[i], 0 ≤ z ∧ z < (L.length : Int)) := GK.out.inn i hlt
        have HRIS : Aside (G[i].Pairwise (· < ·)) := GK.out.ris i hlt
        have HSAME : Aside (∀ z ∈ G[i], L.getD (G[i].headD 0).toNat [] = L.getD z.toNat []) := GK.out.same i hlt
        have HDIFF : Aside (∀ q (h : q < i), L.getD ((G[q]'(by omega)).headD 0).toNat [] ≠ L.getD (G[i].headD 0).toNat []) := fun q h => GK.out.diff i q h hlt
        have HUP : Aside (∀ j, (e : i = j + 1) → (G[j]'(by omega)).headD 0 < G[i].headD 0) := fun j e => by subst e; exact GK.out.up j hlt
        clear hgv
        generalize G[i] = g at *
        obtain ⟨gb, gof, gcp, rfl, hgc2⟩ := lgv.at hgl
        have HGI : Aside (∀ w', Below w2.heap.size w2 w' → ∀ k (h : k < g.length), w'.cell? ⟨gb, gof + k, none⟩ = some (.int .i64 g[k])) := fun w' hw k h => cell_keep (hgc2 k h) hw
        have HG0 : Aside (∀ w', Below w2.heap.size w2 w' → w'.cell? ⟨gb, gof, none⟩ = some (.int .i64 (g.headD 0))) := fun w' hw => by rw [headD_zero hgl]; exact HGI.out w' hw 0 hgl
        have hz0 := HIN.out _ (headD_mem hgl)
        have hg0 := HG0.out _ hbel
        clear hgc2 lgv
        have hne : ((g.length : Int) == 0) = false := by rw [beq_eq_false_iff_ne]; omega
        have hlz : (0 : Int) < (g.length : Int) := by omega
        obtain ⟨g0, hg0e⟩ : ∃ g0, g0 = g.headD 0 := ⟨_, rfl⟩
        rw [← hg0e] at HSAME HDIFF HUP HG0 hz0 hg0
        have HE0 : Hid (g0 = g.headD 0) := hg0e
        clear hg0e
        have ug : ∀ d os, (grow (redrawn wr d) os).cell? ⟨gb, gof, none⟩ = some (.int .i64 g0) := fun d os => cell_regrown hg0 d os
        obtain ⟨wx, rfl⟩ : ∃ x, x = wr := ⟨_, rfl⟩
        by_cases hi0 : i = 0
        · have hiz : decide ((0 : Int) < (i : Int)) = false := by simp; omega
          have hin : decide (0 < i) = false := by simp; omega
          have HI0 : Hid (i = 0) := hi0
          clear hi0
          go_wp2_with fail
          refine wp_region_quiet_below (by kernel_rfl) (by kernel_rfl) ?_
          repeat (first | go_big_quiet_step (fail) | quiet_step (fail))
          refine wpQuiet_nil ?_
          rintro _ ⟨⟨dq, osq⟩, rfl⟩
          have hb := below_regrown wx dq osq
          generalize grow (redrawn wx dq) osq = w3 at hb ⊢
          have hb3 := btrans hbel hb
          clear ug hg0 hgv' hb hbel
          go_wp2_with fail
          obtain ⟨m0, hm0⟩ : ∃ m0 : Nat, g0 = (m0 : Int) := ⟨g0.toNat, by omega⟩
          subst hm0
          have hm0L : m0 < L.length := by omega
          obtain ⟨lb, lo, x0, rfl, cx0w, lx0w⟩ := HLC.out m0 hm0L
          have h60 := sL.at hm0L
          have HX0 : Hid (L.getD m0 [] = L[m0]) := by show _ = _; simp [List.getD, hm0L]
          generalize L[m0] = X at lx0w h60 HX0
          have j1 : (0 : Int) ≤ (m0 : Int) := by omega
          have j2 : (m0 : Int) < (L.length : Int) := by omega
          go_loopw [47] (fun i wr => ∃ k : Nat, k ≤ g.length ∧ i = .int .i64 k ∧ Below w2.heap.size w2 wr) (fun i _ => g.length - (intOf i).toNat)
          case atStart => exact ⟨0, Nat.zero_le _, rfl, hb3⟩
          case round =>
            obtain ⟨k, hk, rfl, hbel⟩ := hrel
            clear hb3
            have hg0' := HG0.out _ hbel
            have cx0 := cell_keep cx0w hbel
            have lx0 := lx0w.keep hbel
            by_cases hkg : k < g.length
            · have hkt2 : decide ((k : Int) < (g.length : Int)) = true := by simp; omega
              have u0 : ∀ d os, (grow (redrawn wr d) os).cell? ⟨gb, gof, none⟩ = some (.int .i64 (m0 : Int)) := fun d os => cell_regrown hg0' d os
              have u1 : ∀ d os, (grow (redrawn wr d) os).cell? ⟨lb, lo + m0, none⟩ = some x0 := fun d os => cell_regrown cx0 d os
              cases k with
              | zero =>
                have j5 : ¬ (m0 : Int) < 0 := by omega
                have j6 : ¬ (L.length : Int) ≤ (m0 : Int) := by omega
                have hB : sameB X X = true := by rw [sameB_eq]; simp
                go_wp2_with fail
                refine wp_region_quiet_below (by kernel_rfl) (by kernel_rfl) ?_
                repeat (first | go_big_quiet_step (exact Calls.regrown_of (same_any _ _ _ X X (lx0.keep (below_regrown ..)) (lx0.keep (below_regrown ..)) h60)) | quiet_step (exact Calls.regrown_of (same_any _ _ _ X X (lx0.keep (below_regrown ..)) (lx0.keep (below_regrown ..)) h60)))
                refine wpQuiet_nil ?_
                rintro _ ⟨⟨dq, osq⟩, rfl⟩
                have hb := below_regrown wr dq osq
                generalize grow (redrawn wr dq) osq = w4 at hb ⊢
                have hb4 := btrans hbel hb
                try rw [hB]
                clear u0 u1 cx0 lx0 hg0' hb
                go_wp2_with fail
                go_roundw
                case rel => exact ⟨1, by omega, rfl, hb4⟩
                case measure => simp [intOf]; omega
              | succ t =>
                have hgk := HGI.out _ hbel (t + 1) hkg
                have hmem : g[t + 1] ∈ g := List.getElem_mem hkg
                obtain ⟨hz1, hz2⟩ := HIN.out _ hmem
                have hsm := HSAME.out _ hmem
                have hrt := (List.pairwise_iff_getElem.1 HRIS.out) t (t + 1) (by omega) hkg (by omega)
                have hgt := HGI.out _ hbel t (by omega)
                generalize g[t]'(by omega) = zt at hrt hgt
                obtain ⟨m, hm⟩ : ∃ m : Nat, g[t + 1] = (m : Int) := ⟨(g[t + 1]).toNat, by omega⟩
                rw [hm] at hgk hz1 hz2 hsm hrt
                have hmL : m < L.length := by omega
                obtain ⟨lb', lo', x1, he, cx1, lx1⟩ := lieR_at HLC.out hbel hmL
                simp only [Option.some.injEq, Addr.mk.injEq] at he
                obtain ⟨rfl, rfl, _⟩ := he
                have hsame : X = L[m] := by
                  have := HX0.out
                  rw [← this]
                  simpa [List.getD, hmL] using hsm
                have hB : sameB X L[m] = true := by rw [sameB_eq, hsame]; simp
                generalize L[m] = Y at lx1 hB hsame
                have u2 : ∀ d os, (grow (redrawn wr d) os).cell? ⟨lb, lo + m, none⟩ = some x1 := fun d os => cell_regrown cx1 d os
                have j3 : (0 : Int) ≤ (m : Int) := by omega
                have j4 : (m : Int) < (L.length : Int) := by omega
                have j5 : ¬ (m : Int) < 0 := by omega
                have j6 : ¬ (L.length : Int) ≤ (m : Int) := by omega
                have u3 : ∀ d os, (grow (redrawn wr d) os).cell? ⟨gb, gof + t, none⟩ = some (.int .i64 zt) := fun d os => cell_regrown hgt d os
                have hkz : (0 : Int) < (t : Int) + 1 := by omega
                have hwt : IntKind.i64.wrap (t : Int) = (t : Int) := by rw [IntKind.wrap_i64]; omega
                have tz1 : (t : Int) < (g.length : Int) := by omega
                have tn : ¬ (m : Int) ≤ zt := by omega
                clear hm hsm hsame hmem hz1 hz2
                go_wp2_with fail
                refine wp_region_quiet_below (by kernel_rfl) (by kernel_rfl) ?_
                repeat (first | go_big_quiet_step (exact Calls.regrown_of (same_any _ _ _ X Y (lx0.keep (below_regrown ..)) (lx1.keep (below_regrown ..)) h60)) | quiet_step (exact Calls.regrown_of (same_any _ _ _ X Y (lx0.keep (below_regrown ..)) (lx1.keep (below_regrown ..)) h60)))
                refine wpQuiet_nil ?_
                rintro _ ⟨⟨dq, osq⟩, rfl⟩
                have hb := below_regrown wr dq osq
                generalize grow (redrawn wr dq) osq = w4 at hb ⊢
                have hb4 := btrans hbel hb
                try rw [hB]
                clear u0 u1 u2 u3 cx0 cx1 lx0 lx1 hgk hg0' hb hgt
                go_wp2_with fail
                go_roundw
                case rel => exact ⟨t + 1 + 1, by omega, by go_num, hb4⟩
                case measure => simp [intOf]; omega
            · have hkt2 : decide ((k : Int) < (g.length : Int)) = false := by simp; omega
              have hi0z : (0 : Int) ≤ (i : Int) := by omega
              have hic : (i : Int) ≤ (gc : Int) := by omega
              clear hg0' cx0 lx0
              go_wp2_with fail
              go_loopw [92] (fun v wr => ∃ q : Nat, q ≤ i ∧ v = .int .i64 q ∧ Below w2.heap.size w2 wr) (fun v _ => i - (intOf v).toNat)
              case atStart => exact ⟨0, Nat.zero_le _, rfl, hbel⟩
              case round =>
                clear hbel
                obtain ⟨q, hq, rfl, hbel⟩ := hrel
                by_cases hqi : q < i
                · have hqt : decide ((q : Int) < (i : Int)) = true := by simp; omega
                  have hol := GK.out.ne q (by omega)
                  have hdf := HDIFF.out q hqi
                  obtain ⟨ub', uo', ov, he, co, lov⟩ := HGC.out q (by omega)
                  simp only [Option.some.injEq, Addr.mk.injEq] at he
                  obtain ⟨rfl, rfl, _⟩ := he
                  obtain ⟨ob, oof, ocp, rfl, hoc⟩ := lov.at hol
                  have ho0 : wr.cell? ⟨ob, oof, none⟩ = some (.int .i64 ((G[q]'(by omega)).headD 0)) := by rw [headD_zero hol]; exact cell_keep (hoc 0 hol) hbel
                  obtain ⟨hz1, hz2⟩ := GK.out.inn q (by omega) _ (headD_mem hol)
                  obtain ⟨m1, hm1⟩ : ∃ m1 : Nat, (G[q]'(by omega)).headD 0 = (m1 : Int) := ⟨((G[q]'(by omega)).headD 0).toNat, by omega⟩
                  rw [hm1] at ho0 hz1 hz2 hdf
                  have hm1L : m1 < L.length := by omega
                  obtain ⟨lb', lo', xz, he, cz, lz⟩ := lieR_at HLC.out hbel hm1L
                  simp only [Option.some.injEq, Addr.mk.injEq] at he
                  obtain ⟨rfl, rfl, _⟩ := he
                  have h60z := sL.at hm1L
                  have hB : sameB L[m1] X = false := by
                    rw [sameB_eq]
                    have : ¬ L[m1] = X := fun e => hdf (by rw [← HX0.out] at e; simpa [List.getD, hm1L] using e)
                    simpa using this
                  have co' := cell_keep co hbel
                  clear hdf hoc lov co hm1
                  generalize L[m1] = Z at lz h60z hB
                  generalize (G[q]'(by omega)).length = ol at *
                  have cx0q := cell_keep cx0w hbel
                  have lx0q := lx0w.keep hbel
                  have hg0q := HG0.out _ hbel
                  have v0 : ∀ d os, (grow (redrawn wr d) os).cell? ⟨gb, gof, none⟩ = some (.int .i64 (m0 : Int)) := fun d os => cell_regrown hg0q d os
                  have v1 : ∀ d os, (grow (redrawn wr d) os).cell? ⟨lb, lo + m0, none⟩ = some x0 := fun d os => cell_regrown cx0q d os
                  have v2 : ∀ d os, (grow (redrawn wr d) os).cell? ⟨lb, lo + m1, none⟩ = some xz := fun d os => cell_regrown cz d os
                  have v3 : ∀ d os, (grow (redrawn wr d) os).cell? ⟨ob, oof, none⟩ = some (.int .i64 (m1 : Int)) := fun d os => cell_regrown ho0 d os
                  have n1 : (0 : Int) ≤ (m1 : Int) := by omega
                  have n2 : (m1 : Int) < (L.length : Int) := by omega
                  have n3 : (0 : Int) < (ol : Int) := by omega
                  have n4 : (0 : Int) ≤ (q : Int) := by omega
                  have n5 : (q : Int) < (i : Int) := by omega
                  go_wp2_with fail
                  refine wp_region_quiet_below (by kernel_rfl) (by kernel_rfl) ?_
                  repeat (first | go_big_quiet_step (exact Calls.regrown_of (same_any _ _ _ Z X (lz.keep (below_regrown ..)) (lx0q.keep (below_regrown ..)) h60z)) | quiet_step (exact Calls.regrown_of (same_any _ _ _ Z X (lz.keep (below_regrown ..)) (lx0q.keep (below_regrown ..)) h60z)))
                  refine wpQuiet_nil ?_
                  rintro _ ⟨⟨dq, osq⟩, rfl⟩
                  have hb := below_regrown wr dq osq
                  generalize grow (redrawn wr dq) osq = w5 at hb ⊢
                  have hb5 := btrans hbel hb
                  try rw [hB]
                  clear v0 v1 v2 v3 cx0q lx0q hg0q cz lz ho0 co' hb
                  go_wp2_with fail
                  go_roundw
                  case rel => exact ⟨q + 1, by omega, by go_num, hb5⟩
                  case measure => simp [intOf]; omega
                · have hqt : decide ((q : Int) < (i : Int)) = false := by simp; omega
                  go_wp2_with fail
                  go_roundw
                  case rel => exact ⟨i + 1, by omega, by go_num, by rw [HST.out]; go_num, hbel⟩
                  case measure => simp [intOf]; omega
        · obtain ⟨j, hij⟩ : ∃ j, i = j + 1 := ⟨i - 1, by omega⟩
          have HIJ : Hid (i = j + 1) := hij
          clear hi0
          have hpl := GK.out.ne j (by omega)
          have hup := HUP.out j hij
          obtain ⟨ub', uo', pv, hue, hpv, lpv⟩ := HGC.out j (by omega)
          simp only [Option.some.injEq, Addr.mk.injEq] at hue
          obtain ⟨rfl, rfl, _⟩ := hue
          obtain ⟨pb, pof, pcp, rfl, hpc⟩ := lpv.at hpl
          have hp0 : wx.cell? ⟨pb, pof, none⟩ = some (.int .i64 ((G[j]'(by omega)).headD 0)) := by rw [headD_zero hpl]; exact cell_keep (hpc 0 hpl) hbel
          have hpv' := cell_keep hpv hbel
          clear hpv lpv hpc
          generalize (G[j]'(by omega)).headD 0 = p0 at hp0 hup
          generalize (G[j]'(by omega)).length = ppl at *
          have up : ∀ d os, (grow (redrawn wx d) os).cell? ⟨pb, pof, none⟩ = some (.int .i64 p0) := fun d os => cell_regrown hp0 d os
          have uu : ∀ d os, (grow (redrawn wx d) os).cell? ⟨ub, uo + j, none⟩ = some (.slice (some ⟨pb, pof, none⟩) ppl pcp) := fun d os => cell_regrown hpv' d os
          have hplz : (0 : Int) < (ppl : Int) := by omega
          have hiz : decide ((0 : Int) < (i : Int)) = true := by simp; omega
          have hin : decide (0 < i) = true := by simp; omega
          have hwi : IntKind.i64.wrap ((i : Int) - 1) = (j : Int) := by rw [IntKind.wrap_i64]; omega
          have jz1 : (j : Int) < (G.length : Int) := by omega
          clear hij
          have hupn : ¬ g0 ≤ p0 := by omega
          go_wp2_with fail
          refine wp_region_quiet_below (by kernel_rfl) (by kernel_rfl) ?_
          repeat (first | go_big_quiet_step (fail) | quiet_step (fail))
          refine wpQuiet_nil ?_
          rintro _ ⟨⟨dq, osq⟩, rfl⟩
          have hb := below_regrown wx dq osq
          generalize grow (redrawn wx dq) osq = w3 at hb ⊢
          have hb3 := btrans hbel hb
          clear ug hg0 hgv' hb hbel up uu hpv' hp0
          go_wp2_with fail
          obtain ⟨m0, hm0⟩ : ∃ m0 : Nat, g0 = (m0 : Int) := ⟨g0.toNat, by omega⟩
          subst hm0
          have hm0L : m0 < L.length := by omega
          obtain ⟨lb, lo, x0, rfl, cx0w, lx0w⟩ := HLC.out m0 hm0L
          have h60 := sL.at hm0L
          have HX0 : Hid (L.getD m0 [] = L[m0]) := by show _ = _; simp [List.getD, hm0L]
          generalize L[m0] = X at lx0w h60 HX0
          have j1 : (0 : Int) ≤ (m0 : Int) := by omega
          have j2 : (m0 : Int) < (L.length : Int) := by omega
          go_loopw [47] (fun i wr => ∃ k : Nat, k ≤ g.length ∧ i = .int .i64 k ∧ Below w2.heap.size w2 wr) (fun i _ => g.length - (intOf i).toNat)
          case atStart => exact ⟨0, Nat.zero_le _, rfl, hb3⟩
          case round =>
            obtain ⟨k, hk, rfl, hbel⟩ := hrel
            clear hb3
            have hg0' := HG0.out _ hbel
            have cx0 := cell_keep cx0w hbel
            have lx0 := lx0w.keep hbel
            by_cases hkg : k < g.length
            · have hkt2 : decide ((k : Int) < (g.length : Int)) = true := by simp; omega
              have u0 : ∀ d os, (grow (redrawn wr d) os).cell? ⟨gb, gof, none⟩ = some (.int .i64 (m0 : Int)) := fun d os => cell_regrown hg0' d os
              have u1 : ∀ d os, (grow (redrawn wr d) os).cell? ⟨lb, lo + m0, none⟩ = some x0 := fun d os => cell_regrown cx0 d os
              cases k with
              | zero =>
                have j5 : ¬ (m0 : Int) < 0 := by omega
                have j6 : ¬ (L.length : Int) ≤ (m0 : Int) := by omega
                have hB : sameB X X = true := by rw [sameB_eq]; simp
                go_wp2_with fail
                refine wp_region_quiet_below (by kernel_rfl) (by kernel_rfl) ?_
                repeat (first | go_big_quiet_step (exact Calls.regrown_of (same_any _ _ _ X X (lx0.keep (below_regrown ..)) (lx0.keep (below_regrown ..)) h60)) | quiet_step (exact Calls.regrown_of (same_any _ _ _ X X (lx0.keep (below_regrown ..)) (lx0.keep (below_regrown ..)) h60)))
                refine wpQuiet_nil ?_
                rintro _ ⟨⟨dq, osq⟩, rfl⟩
                have hb := below_regrown wr dq osq
                generalize grow (redrawn wr dq) osq = w4 at hb ⊢
                have hb4 := btrans hbel hb
                try rw [hB]
                clear u0 u1 cx0 lx0 hg0' hb
                go_wp2_with fail
                go_roundw
                case rel => exact ⟨1, by omega, rfl, hb4⟩
                case measure => simp [intOf]; omega
              | succ t =>
                have hgk := HGI.out _ hbel (t + 1) hkg
                have hmem : g[t + 1] ∈ g := List.getElem_mem hkg
                obtain ⟨hz1, hz2⟩ := HIN.out _ hmem
                have hsm := HSAME.out _ hmem
                have hrt := (List.pairwise_iff_getElem.1 HRIS.out) t (t + 1) (by omega) hkg (by omega)
                have hgt := HGI.out _ hbel t (by omega)
                generalize g[t]'(by omega) = zt at hrt hgt
                obtain ⟨m, hm⟩ : ∃ m : Nat, g[t + 1] = (m : Int) := ⟨(g[t + 1]).toNat, by omega⟩
                rw [hm] at hgk hz1 hz2 hsm hrt
                have hmL : m < L.length := by omega
                obtain ⟨lb', lo', x1, he, cx1, lx1⟩ := lieR_at HLC.out hbel hmL
                simp only [Option.some.injEq, Addr.mk.injEq] at he
                obtain ⟨rfl, rfl, _⟩ := he
                have hsame : X = L[m] := by
                  have := HX0.out
                  rw [← this]
                  simpa [List.getD, hmL] using hsm
                have hB : sameB X L[m] = true := by rw [sameB_eq, hsame]; simp
                generalize L[m] = Y at lx1 hB hsame
                have u2 : ∀ d os, (grow (redrawn wr d) os).cell? ⟨lb, lo + m, none⟩ = some x1 := fun d os => cell_regrown cx1 d os
                have j3 : (0 : Int) ≤ (m : Int) := by omega
                have j4 : (m : Int) < (L.length : Int) := by omega
                have j5 : ¬ (m : Int) < 0 := by omega
                have j6 : ¬ (L.length : Int) ≤ (m : Int) := by omega
                have u3 : ∀ d os, (grow (redrawn wr d) os).cell? ⟨gb, gof + t, none⟩ = some (.int .i64 zt) := fun d os => cell_regrown hgt d os
                have hkz : (0 : Int) < (t : Int) + 1 := by omega
                have hwt : IntKind.i64.wrap (t : Int) = (t : Int) := by rw [IntKind.wrap_i64]; omega
                have tz1 : (t : Int) < (g.length : Int) := by omega
                have tn : ¬ (m : Int) ≤ zt := by omega
                clear hm hsm hsame hmem hz1 hz2
                go_wp2_with fail
                refine wp_region_quiet_below (by kernel_rfl) (by kernel_rfl) ?_
                repeat (first | go_big_quiet_step (exact Calls.regrown_of (same_any _ _ _ X Y (lx0.keep (below_regrown ..)) (lx1.keep (below_regrown ..)) h60)) | quiet_step (exact Calls.regrown_of (same_any _ _ _ X Y (lx0.keep (below_regrown ..)) (lx1.keep (below_regrown ..)) h60)))
                refine wpQuiet_nil ?_
                rintro _ ⟨⟨dq, osq⟩, rfl⟩
                have hb := below_regrown wr dq osq
                generalize grow (redrawn wr dq) osq = w4 at hb ⊢
                have hb4 := btrans hbel hb
                try rw [hB]
                clear u0 u1 u2 u3 cx0 cx1 lx0 lx1 hgk hg0' hb hgt
                go_wp2_with fail
                go_roundw
                case rel => exact ⟨t + 1 + 1, by omega, by go_num, hb4⟩
                case measure => simp [intOf]; omega
            · have hkt2 : decide ((k : Int) < (g.length : Int)) = false := by simp; omega
              have hi0z : (0 : Int) ≤ (i : Int) := by omega
              have hic : (i : Int) ≤ (gc : Int) := by omega
              clear hg0' cx0 lx0
              go_wp2_with fail
              go_loopw [92] (fun v wr => ∃ q : Nat, q ≤ i ∧ v = .int .i64 q ∧ Below w2.heap.size w2 wr) (fun v _ => i - (intOf v).toNat)
              case atStart => exact ⟨0, Nat.zero_le _, rfl, hbel⟩
              case round =>
                clear hbel
                obtain ⟨q, hq, rfl, hbel⟩ := hrel
                by_cases hqi : q < i
                · have hqt : decide ((q : Int) < (i : Int)) = true := by simp; omega
                  have hol := GK.out.ne q (by omega)
                  have hdf := HDIFF.out q hqi
                  obtain ⟨ub', uo', ov, he, co, lov⟩ := HGC.out q (by omega)
                  simp only [Option.some.injEq, Addr.mk.injEq] at he
                  obtain ⟨rfl, rfl, _⟩ := he
                  obtain ⟨ob, oof, ocp, rfl, hoc⟩ := lov.at hol
                  have ho0 : wr.cell? ⟨ob, oof, none⟩ = some (.int .i64 ((G[q]'(by omega)).headD 0)) := by rw [headD_zero hol]; exact cell_keep (hoc 0 hol) hbel
                  obtain ⟨hz1, hz2⟩ := GK.out.inn q (by omega) _ (headD_mem hol)
                  obtain ⟨m1, hm1⟩ : ∃ m1 : Nat, (G[q]'(by omega)).headD 0 = (m1 : Int) := ⟨((G[q]'(by omega)).headD 0).toNat, by omega⟩
                  rw [hm1] at ho0 hz1 hz2 hdf
                  have hm1L : m1 < L.length := by omega
                  obtain ⟨lb', lo', xz, he, cz, lz⟩ := lieR_at HLC.out hbel hm1L
                  simp only [Option.some.injEq, Addr.mk.injEq] at he
                  obtain ⟨rfl, rfl, _⟩ := he
                  have h60z := sL.at hm1L
                  have hB : sameB L[m1] X = false := by
                    rw [sameB_eq]
                    have : ¬ L[m1] = X := fun e => hdf (by rw [← HX0.out] at e; simpa [List.getD, hm1L] using e)
                    simpa using this
                  have co' := cell_keep co hbel
                  clear hdf hoc lov co hm1
                  generalize L[m1] = Z at lz h60z hB
                  generalize (G[q]'(by omega)).length = ol at *
                  have cx0q := cell_keep cx0w hbel
                  have lx0q := lx0w.keep hbel
                  have hg0q := HG0.out _ hbel
                  have v0 : ∀ d os, (grow (redrawn wr d) os).cell? ⟨gb, gof, none⟩ = some (.int .i64 (m0 : Int)) := fun d os => cell_regrown hg0q d os
                  have v1 : ∀ d os, (grow (redrawn wr d) os).cell? ⟨lb, lo + m0, none⟩ = some x0 := fun d os => cell_regrown cx0q d os
                  have v2 : ∀ d os, (grow (redrawn wr d) os).cell? ⟨lb, lo + m1, none⟩ = some xz := fun d os => cell_regrown cz d os
                  have v3 : ∀ d os, (grow (redrawn wr d) os).cell? ⟨ob, oof, none⟩ = some (.int .i64 (m1 : Int)) := fun d os => cell_regrown ho0 d os
                  have n1 : (0 : Int) ≤ (m1 : Int) := by omega
                  have n2 : (m1 : Int) < (L.length : Int) := by omega
                  have n3 : (0 : Int) < (ol : Int) := by omega
                  have n4 : (0 : Int) ≤ (q : Int) := by omega
                  have n5 : (q : Int) < (i : Int) := by omega
                  go_wp2_with fail
                  refine wp_region_quiet_below (by kernel_rfl) (by kernel_rfl) ?_
                  repeat (first | go_big_quiet_step (exact Calls.regrown_of (same_any _ _ _ Z X (lz.keep (below_regrown ..)) (lx0q.keep (below_regrown ..)) h60z)) | quiet_step (exact Calls.regrown_of (same_any _ _ _ Z X (lz.keep (below_regrown ..)) (lx0q.keep (below_regrown ..)) h60z)))
                  refine wpQuiet_nil ?_
                  rintro _ ⟨⟨dq, osq⟩, rfl⟩
                  have hb := below_regrown wr dq osq
                  generalize grow (redrawn wr dq) osq = w5 at hb ⊢
                  have hb5 := btrans hbel hb
                  try rw [hB]
                  clear v0 v1 v2 v3 cx0q lx0q hg0q cz lz ho0 co' hb
                  go_wp2_with fail
                  go_roundw
                  case rel => exact ⟨q + 1, by omega, by go_num, hb5⟩
                  case measure => simp [intOf]; omega
                · have hqt : decide ((q : Int) < (i : Int)) = false := by simp; omega
                  go_wp2_with fail
                  go_roundw
                  case rel => exact ⟨i + 1, by omega, by go_num, by rw [HST.out]; go_num, hbel⟩
                  case measure => simp [intOf]; omega
      · have hkt : decide ((i : Int) < (G.length : Int)) = false := by simp; omega
        have hkk : i = G.length := by omega
        subst hkk
        rw [List.take_length, GK.out.tot]
        have hee : ((L.length : Int) == (L.length : Int)) = true := by simp
        go_wp2_with fail
        refine (alive_any _).mono ?_
        rintro e z3 ⟨rfl, b3⟩
        go_wp2_with fail
        go_ret
        exact ⟨rfl, btrans k2 (btrans hbel b3)⟩

end Go.Proofs.YtafbgmpbfonljaaDoor
