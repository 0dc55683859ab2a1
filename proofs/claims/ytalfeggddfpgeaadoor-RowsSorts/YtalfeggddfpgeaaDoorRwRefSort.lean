/- The document's Sort, walked. -/
import Derived.Test.YtalfeggddfpgeaaDoorRwRefP
namespace Go.Proofs.YtalfeggddfpgeaaDoor
open Go.RowKit Go.Sort

set_option maxRecDepth 100000 in
set_option maxHeartbeats 8000000 in
theorem refSort_any (w : World) (v vk vd : Value) (L K : List Row) (d : List Bool) (hl : LiesR w v L) (hk : LiesR w vk K) (hd : LiesB w vd d) (hn : L.length ≤ 1000) (hK : ∀ r ∈ K, r.length ≤ 60 ∧ Fair r) :
    Calls Tryd.prog 9 #[v, vk, vd] w fun e w' => ∃ u P, e = .returned u ∧ P.Perm (List.range L.length) ∧ P.Pairwise (lt (cfK K d)) ∧ LiesR w' u (rowsBy L P) ∧ Below w.heap.size w w' := by
  obtain ⟨lo, lcap, rfl, _, _⟩ := id hl
  obtain ⟨xs, hx1, hx2⟩ := hk.cells
  have hKD : ∀ p, (K.getD p []).length ≤ 60 ∧ Fair (K.getD p []) := fun p => by
    by_cases c : p < K.length
    · exact getD_all hK c
    · rw [show K.getD p [] = [] by simp [List.getD, List.getElem?_eq_none (Nat.le_of_not_lt c)]]
      exact ⟨by simp, fun e he => absurd he (by simp)⟩
  have KEY : Aside (∀ w', Below w.heap.size w w' → ∀ p : Nat, Calls Tryd.prog 19 #[vk, .int .i64 p] w' fun e w'' => e = .returned (xs.getD p (.slice none 0 0)) ∧ w'' = w') := fun w' h p => key_any w' vk xs p (hx1.keep h)
  have ORDC : Aside (∀ w', Below w.heap.size w w' → ∀ p q : Nat, Calls Tryd.prog 10 #[xs.getD p (.slice none 0 0), xs.getD q (.slice none 0 0), vd] w' fun e w'' => e = .returned (.int .i64 (cfK K d p q)) ∧ Below w'.heap.size w' w'') := fun w' h p q => refOrdK_any w' _ _ _ _ _ d ((hx2.keep h).getD p) ((hx2.keep h).getD q) (hd.keep h) (hKD p).1 (hKD q).1 (hKD p).2 (hKD q).2
  clear hx1 hx2 hk hd hK hKD
  obtain ⟨n, hn'⟩ : ∃ n, n = L.length := ⟨_, rfl⟩
  have HLEN : Aside (L.length = n) := hn'.symm
  rw [← hn'] at hn ⊢
  clear hn'
  go_enter Tryd.func9, Tryd.ntmps9
  go_wp2_with fail
  go_loopw [7, 8] (fun x iv wr => ∃ (i : Nat) (Q : List Nat), i ≤ n ∧ iv = .int .i64 i ∧ Own1 wr w.heap.size 3 x (natCells Q) ∧ Q.Perm (List.range i) ∧ Q.Pairwise (lt (cfK K d)) ∧ (i = 0 → x = .slice none 0 0) ∧ Below w.heap.size w wr) (fun _ iv _ => n - (intOf iv).toNat)
  case atStart => exact ⟨0, [], Nat.zero_le _, rfl, by simpa [natCells] using Own1.nil _ _ _, by simp, List.Pairwise.nil, fun _ => rfl, Below.refl _ _⟩
  case round =>
    obtain ⟨i, Q, hi', rfl, hown, hperm, hpw, hx0, hbel⟩ := hrel
    have HPERM : Aside (Q.Perm (List.range i)) := hperm
    have HPW : Aside (Q.Pairwise (lt (cfK K d))) := hpw
    have HLT : Aside (∀ q ∈ Q, q < i) := fun q hq => List.mem_range.1 (hperm.mem_iff.1 hq)
    clear hperm hpw
    by_cases hi : i < n
    · have hit : decide ((i : Int) < (n : Int)) = true := by simp; omega
      by_cases hi0 : i = 0
      · obtain rfl := hx0 hi0
        have hQ : Q = [] := by have := HPERM.out.length_eq; rw [hi0] at this; simpa using this
        have HI0 : Hid (i = 0) := hi0
        subst hQ
        clear hown hi0 hx0
        go_wp2_with fail
        refine wp_loop_rounds 1 ?_
        rw [rounds_succ]
        go_wp2_with fail
        obtain ⟨k, hk⟩ : ∃ k : Nat, k = 0 := ⟨0, rfl⟩
        obtain ⟨wk, rfl⟩ : ∃ x, x = wr := ⟨_, rfl⟩
        have hbk := hbel
        have SRC : Aside (∀ W, Below wk.heap.size wk W → LiesC W (.slice none 0 0) (natCells (([] : List Nat).take k)) ∧ LiesC W (.slice none 0 0) (natCells (([] : List Nat).drop k))) := fun W _ => ⟨by simpa [natCells] using LiesC.none W, by simpa [natCells] using LiesC.none W⟩
        have hkQ : k ≤ ([] : List Nat).length := by simp [hk]
        have HHI : Aside (∀ l, k ≤ l → l < ([] : List Nat).length → 0 < cfK K d (nth [] l) i) := fun l _ h => absurd h (by simp)
        have HLO : Aside (k = 0 ∨ cfK K d (nth [] (k - 1)) i ≤ 0) := .inl hk
        have HK : Hid (k = 0) := hk
        have HLQ : Aside (([] : List Nat).length ≤ 1000) := by show _ ≤ _; simp
        clear hk
        have L1 : Aside (([] : List Value).length + (natCells (([] : List Nat).take k)).length ≤ 1000000000) := by show _ ≤ _; have h1 := HLQ.out; simp [natCells_length]; try omega
        have L2 : Aside ((([] : List Value) ++ natCells (([] : List Nat).take k)).length ≤ 1000000) := by show _ ≤ _; have h1 := HLQ.out; simp [natCells_length]; try omega
        have L3 : Aside (((([] : List Value) ++ natCells (([] : List Nat).take k)) ++ [Value.int .i64 (i : Int)]).length + (natCells (([] : List Nat).drop k)).length ≤ 1000000000) := by show _ ≤ _; have h1 := HLQ.out; simp [natCells_length]; try omega
        have bA1 : Below wk.heap.size wk (wk.alloc (.cells #[] 3)).drew := ((Below.refl _ _).alloc (Nat.le_refl _) _).drew
        have bA2 : Below wk.heap.size wk ((wk.alloc (.cells #[] 3)).alloc (.cells #[.int .i64 (i : Int)] 3)).drew := (((Below.refl _ _).alloc (Nat.le_refl _) (.cells #[] 3)).alloc ((Below.refl _ _).alloc (Nat.le_refl _) (.cells #[] 3)).size _).drew
        have bB2 : Below wk.heap.size wk ((wk.alloc (.cells #[.int .i64 (i : Int)] 3)).alloc (.cells #[] 3)).drew := (((Below.refl _ _).alloc (Nat.le_refl _) (.cells #[.int .i64 (i : Int)] 3)).alloc ((Below.refl _ _).alloc (Nat.le_refl _) (.cells #[.int .i64 (i : Int)] 3)).size _).drew
        have oA1 : Own1 (wk.alloc (.cells #[] 3)).drew wk.heap.size 3 (.slice (some ⟨wk.heap.size, 0, none⟩) 0 0) [] := (Own1.lit wk [] rfl (Nat.le_refl _) rfl (by simp)).drew
        have oA2 : Own1 ((wk.alloc (.cells #[] 3)).alloc (.cells #[.int .i64 (i : Int)] 3)).drew wk.heap.size 3 (.slice (some ⟨wk.heap.size, 0, none⟩) 0 0) [] := ((Own1.lit wk [] rfl (Nat.le_refl _) rfl (by simp)).alloc _).drew
        have oB2 : Own1 ((wk.alloc (.cells #[.int .i64 (i : Int)] 3)).alloc (.cells #[] 3)).drew wk.heap.size 3 (.slice (some ⟨wk.heap.size + 1, 0, none⟩) 0 0) [] := (Own1.lit (wk.alloc (.cells #[.int .i64 (i : Int)] 3)) [] rfl (by simp [go_sem]) (by simp [go_sem]) (by simp)).drew
        have cA2 : ((wk.alloc (.cells #[] 3)).alloc (.cells #[.int .i64 (i : Int)] 3)).drew.cell? ⟨wk.heap.size + 1, 0, none⟩ = some (.int .i64 (i : Int)) := by simp [go_sem]
        have cB2 : ((wk.alloc (.cells #[.int .i64 (i : Int)] 3)).alloc (.cells #[] 3)).drew.cell? ⟨wk.heap.size, 0, none⟩ = some (.int .i64 (i : Int)) := by simp [go_sem]
        go_region_law (first
          | (refine step_cat1 info_int Tryd.underlying41 rfl (by decide) (.tmp 39) (.tmp 42) rfl rfl rfl rfl oA1 (SRC.out _ bA1).1 (natCells_one _) bA1.size L1.out ?_; intro v3 w3 ho3 hb3 hg3; have bk3 := bA1.trans hb3; have b3s := (bk3.alloc bk3.size (.cells #[.int .i64 (i : Int)] 3)).size; have bk3' : Below wk.heap.size wk (w3.alloc (.cells #[.int .i64 (i : Int)] 3)) := bk3.alloc bk3.size _; have ho3' : Own1 (w3.alloc (.cells #[.int .i64 (i : Int)] 3)) wk.heap.size 3 v3 ([] ++ natCells (([] : List Nat).take k)) := ho3.alloc _; have c3 : (w3.alloc (.cells #[.int .i64 (i : Int)] 3)).cell? ⟨w3.heap.size, 0, none⟩ = some (.int .i64 (i : Int)) := by simp [go_sem])
          | (refine step_cat1 (v := .slice (some ⟨wk.heap.size, 0, none⟩) 0 0) info_int Tryd.underlying41 rfl (by decide) (.tmp 39) (.tmp 42) rfl rfl rfl rfl oA2 (SRC.out _ bA2).1 (natCells_one _) bA2.size L1.out ?_; intro v3 w3 ho3' hb3 hg3; have bk3' := bA2.trans hb3; have b3s := bk3'.size; have c3 := hg3.cell cA2 (by simp [Value.ownBlock]))
          | (refine step_cat1 (v := .slice (some ⟨wk.heap.size + 1, 0, none⟩) 0 0) info_int Tryd.underlying41 rfl (by decide) (.tmp 39) (.tmp 42) rfl rfl rfl rfl oB2 (SRC.out _ bB2).1 (natCells_one _) bB2.size L1.out ?_; intro v3 w3 ho3' hb3 hg3; have bk3' := bB2.trans hb3; have b3s := bk3'.size; have c3 := hg3.cell cB2 (by simp [Value.ownBlock]))
          | (refine step_push1 info_int Tryd.underlying41 rfl (by decide) (.tmp 43) (.tmp 45) rfl rfl rfl rfl ho3' b3s c3 rfl L2.out ?_; intro v4 w4 ho4 hg4 _ _; have bk4 : Below wk.heap.size wk w4 := Below.grown bk3' hg4 b3s (fun k hk => (World.ownsRow.lt ho3' k hk).1))
          | (refine step_cat1 info_int Tryd.underlying41 rfl (by decide) (.tmp 46) (.tmp 49) rfl rfl rfl rfl ho4 (SRC.out _ bk4).2 (natCells_one _) bk4.size L3.out ?_; intro v5 w5 ho5 hb5 _; have bk5 := bk4.trans hb5))
        all_goals
          have ho6 : Own1 w5 w.heap.size 3 v5 (natCells (insAt [] k i)) := by
            have := ho5.mono hbk.size
            simpa [insAt, natCells] using this
          have b6 := hbk.trans (bk5.mono hbk.size)
          clear ho5 bk5
          go_wp2_with fail
          go_roundw
          case rel => exact ⟨i + 1, insAt [] k i, by omega, by go_num, ho6, insAt_perm HPERM.out, insAt_sorted (pre_cfK K d) HPW.out HLT.out hkQ HHI.out HLO.out, fun h => by omega, b6⟩
          case measure => simp [intOf]; omega
      · have hQl : Q.length = i := by have := HPERM.out.length_eq; simpa using this
        obtain ⟨ao, cap, rfl⟩ := hown.shapeN (n := i) (by rw [natCells_length, hQl])
        obtain ⟨g, rfl, hgb⟩ : ∃ g, ao = some ⟨g, 0, none⟩ ∧ w.heap.size ≤ g := by
          obtain ⟨g, h1, h2, _⟩ := hown.cell (i := 0) (by rw [natCells_length, hQl]; omega)
          exact ⟨g, h1, h2⟩
        have hcap : i ≤ cap := by have := hown.lies; obtain ⟨_, _, he, hh, _⟩ := this; simp only [Value.slice.injEq] at he; obtain ⟨_, _, rfl⟩ := he; rw [natCells_length, hQl] at hh; exact hh.2
        have HDA : Aside (DataAt wr w.heap.size g cap i Q) := ⟨hQl, hgb, hown⟩
        have hi1 : 0 < i := by omega
        obtain ⟨wx, rfl⟩ : ∃ x, x = wr := ⟨_, rfl⟩
        have HX0 : Hid (¬ i = 0) := hi0
        clear hx0 hi0
        go_wp2_with fail
        go_loopw [9] (fun kv wr => ∃ k : Nat, k ≤ i ∧ kv = .int .i64 k ∧ (∀ l, k ≤ l → l < Q.length → 0 < cfK K d (nth Q l) i) ∧ Below wx.heap.size wx wr) (fun kv _ => (intOf kv).toNat)
        case atStart => exact ⟨i, Nat.le_refl _, rfl, fun l h1 h2 => by omega, Below.refl _ _⟩
        case round =>
          obtain ⟨k, hk, rfl, hhi, hbx⟩ := hrel
          have HHI : Aside (∀ l, k ≤ l → l < Q.length → 0 < cfK K d (nth Q l) i) := hhi
          clear hhi
          by_cases hk0 : k = 0
          · have hkz : decide ((0 : Int) < (k : Int)) = false := by simp; omega
            have hkn : decide (0 < k) = false := by simp; omega
            have HK0 : Aside (k = 0) := hk0
            clear hk0
            go_wp2_with fail
            obtain ⟨wk, rfl⟩ : ∃ x, x = wr := ⟨_, rfl⟩
            have HLO : Aside (k = 0 ∨ cfK K d (nth Q (k - 1)) i ≤ 0) := .inl HK0.out
            have hkQ : k ≤ Q.length := by omega
            have HLQ : Aside (Q.length ≤ 1000) := by show _ ≤ _; omega
            have hbk := btrans hbel hbx
            have hownk := hown.keep hbx
            have t0 : (0 : Int) ≤ (k : Int) := by omega
            have t1 : (k : Int) ≤ (i : Int) := by omega
            have t2 : (i : Int) ≤ (cap : Int) := by omega
            have t3 : (k : Int) ≤ (cap : Int) := by omega
            by_cases hck : k = cap
            · have hik : i = k := by omega
              subst hck
              have SRC : Aside (∀ W, Below wk.heap.size wk W → LiesC W (.slice (some ⟨g, 0, none⟩) k k) (natCells (Q.take k)) ∧ LiesC W (.slice (some ⟨g, 0, none⟩) 0 0) (natCells (Q.drop k))) := fun W hW => by
                have := (hownk.keep hW).lies
                refine ⟨by have := this.take (k := k) (by rw [natCells_length]; omega); simpa [natCells, List.map_take] using this, ?_⟩
                have e0 : Q.drop k = [] := List.drop_eq_nil_of_le (by omega)
                rw [e0]
                exact LiesC.empty W _ _
              have HIK : Hid (i = k) := hik
              clear hik
              have L1 : Aside (([] : List Value).length + (natCells (Q.take k)).length ≤ 1000000000) := by show _ ≤ _; have h1 := HLQ.out; simp [natCells_length]; try omega
              have L2 : Aside ((([] : List Value) ++ natCells (Q.take k)).length ≤ 1000000) := by show _ ≤ _; have h1 := HLQ.out; simp [natCells_length]; try omega
              have L3 : Aside (((([] : List Value) ++ natCells (Q.take k)) ++ [Value.int .i64 (i : Int)]).length + (natCells (Q.drop k)).length ≤ 1000000000) := by show _ ≤ _; have h1 := HLQ.out; simp [natCells_length]; try omega
              have bA1 : Below wk.heap.size wk (wk.alloc (.cells #[] 3)).drew := ((Below.refl _ _).alloc (Nat.le_refl _) _).drew
              have bA2 : Below wk.heap.size wk ((wk.alloc (.cells #[] 3)).alloc (.cells #[.int .i64 (i : Int)] 3)).drew := (((Below.refl _ _).alloc (Nat.le_refl _) (.cells #[] 3)).alloc ((Below.refl _ _).alloc (Nat.le_refl _) (.cells #[] 3)).size _).drew
              have bB2 : Below wk.heap.size wk ((wk.alloc (.cells #[.int .i64 (i : Int)] 3)).alloc (.cells #[] 3)).drew := (((Below.refl _ _).alloc (Nat.le_refl _) (.cells #[.int .i64 (i : Int)] 3)).alloc ((Below.refl _ _).alloc (Nat.le_refl _) (.cells #[.int .i64 (i : Int)] 3)).size _).drew
              have oA1 : Own1 (wk.alloc (.cells #[] 3)).drew wk.heap.size 3 (.slice (some ⟨wk.heap.size, 0, none⟩) 0 0) [] := (Own1.lit wk [] rfl (Nat.le_refl _) rfl (by simp)).drew
              have oA2 : Own1 ((wk.alloc (.cells #[] 3)).alloc (.cells #[.int .i64 (i : Int)] 3)).drew wk.heap.size 3 (.slice (some ⟨wk.heap.size, 0, none⟩) 0 0) [] := ((Own1.lit wk [] rfl (Nat.le_refl _) rfl (by simp)).alloc _).drew
              have oB2 : Own1 ((wk.alloc (.cells #[.int .i64 (i : Int)] 3)).alloc (.cells #[] 3)).drew wk.heap.size 3 (.slice (some ⟨wk.heap.size + 1, 0, none⟩) 0 0) [] := (Own1.lit (wk.alloc (.cells #[.int .i64 (i : Int)] 3)) [] rfl (by simp [go_sem]) (by simp [go_sem]) (by simp)).drew
              have cA2 : ((wk.alloc (.cells #[] 3)).alloc (.cells #[.int .i64 (i : Int)] 3)).drew.cell? ⟨wk.heap.size + 1, 0, none⟩ = some (.int .i64 (i : Int)) := by simp [go_sem]
              have cB2 : ((wk.alloc (.cells #[.int .i64 (i : Int)] 3)).alloc (.cells #[] 3)).drew.cell? ⟨wk.heap.size, 0, none⟩ = some (.int .i64 (i : Int)) := by simp [go_sem]
              go_region_law (first
                | (refine step_cat1 info_int Tryd.underlying41 rfl (by decide) (.tmp 39) (.tmp 42) rfl rfl rfl rfl oA1 (SRC.out _ bA1).1 (natCells_one _) bA1.size L1.out ?_; intro v3 w3 ho3 hb3 hg3; have bk3 := bA1.trans hb3; have b3s := (bk3.alloc bk3.size (.cells #[.int .i64 (i : Int)] 3)).size; have bk3' : Below wk.heap.size wk (w3.alloc (.cells #[.int .i64 (i : Int)] 3)) := bk3.alloc bk3.size _; have ho3' : Own1 (w3.alloc (.cells #[.int .i64 (i : Int)] 3)) wk.heap.size 3 v3 ([] ++ natCells (Q.take k)) := ho3.alloc _; have c3 : (w3.alloc (.cells #[.int .i64 (i : Int)] 3)).cell? ⟨w3.heap.size, 0, none⟩ = some (.int .i64 (i : Int)) := by simp [go_sem])
                | (refine step_cat1 (v := .slice (some ⟨wk.heap.size, 0, none⟩) 0 0) info_int Tryd.underlying41 rfl (by decide) (.tmp 39) (.tmp 42) rfl rfl rfl rfl oA2 (SRC.out _ bA2).1 (natCells_one _) bA2.size L1.out ?_; intro v3 w3 ho3' hb3 hg3; have bk3' := bA2.trans hb3; have b3s := bk3'.size; have c3 := hg3.cell cA2 (by simp [Value.ownBlock]))
                | (refine step_cat1 (v := .slice (some ⟨wk.heap.size + 1, 0, none⟩) 0 0) info_int Tryd.underlying41 rfl (by decide) (.tmp 39) (.tmp 42) rfl rfl rfl rfl oB2 (SRC.out _ bB2).1 (natCells_one _) bB2.size L1.out ?_; intro v3 w3 ho3' hb3 hg3; have bk3' := bB2.trans hb3; have b3s := bk3'.size; have c3 := hg3.cell cB2 (by simp [Value.ownBlock]))
                | (refine step_push1 info_int Tryd.underlying41 rfl (by decide) (.tmp 43) (.tmp 45) rfl rfl rfl rfl ho3' b3s c3 rfl L2.out ?_; intro v4 w4 ho4 hg4 _ _; have bk4 : Below wk.heap.size wk w4 := Below.grown bk3' hg4 b3s (fun k hk => (World.ownsRow.lt ho3' k hk).1))
                | (refine step_cat1 info_int Tryd.underlying41 rfl (by decide) (.tmp 46) (.tmp 49) rfl rfl rfl rfl ho4 (SRC.out _ bk4).2 (natCells_one _) bk4.size L3.out ?_; intro v5 w5 ho5 hb5 _; have bk5 := bk4.trans hb5))
              all_goals
                have ho6 : Own1 w5 w.heap.size 3 v5 (natCells (insAt Q k i)) := by
                  have := ho5.mono hbk.size
                  simpa [insAt, natCells] using this
                have b6 := hbk.trans (bk5.mono hbk.size)
                clear ho5 bk5
                go_wp2_with fail
                go_roundw
                case rel => exact ⟨i + 1, insAt Q k i, by omega, by go_num, ho6, insAt_perm HPERM.out, insAt_sorted (pre_cfK K d) HPW.out HLT.out hkQ HHI.out HLO.out, fun h => by omega, b6⟩
                case measure => simp [intOf]; omega
            · have hck2 : ¬ cap = k := fun h => hck h.symm
              have SRC : Aside (∀ W, Below wk.heap.size wk W → LiesC W (.slice (some ⟨g, 0, none⟩) k cap) (natCells (Q.take k)) ∧ LiesC W (.slice (some ⟨g, k, none⟩) (i - k) (cap - k)) (natCells (Q.drop k))) := fun W hW => by
                have := (hownk.keep hW).lies
                refine ⟨by have := this.take (k := k) (by rw [natCells_length]; omega); simpa [natCells, List.map_take] using this, ?_⟩
                have := this.drop (k := k) (by rw [natCells_length]; omega)
                rw [Nat.zero_add] at this
                simpa [natCells, List.map_drop] using this
              have L1 : Aside (([] : List Value).length + (natCells (Q.take k)).length ≤ 1000000000) := by show _ ≤ _; have h1 := HLQ.out; simp [natCells_length]; try omega
              have L2 : Aside ((([] : List Value) ++ natCells (Q.take k)).length ≤ 1000000) := by show _ ≤ _; have h1 := HLQ.out; simp [natCells_length]; try omega
              have L3 : Aside (((([] : List Value) ++ natCells (Q.take k)) ++ [Value.int .i64 (i : Int)]).length + (natCells (Q.drop k)).length ≤ 1000000000) := by show _ ≤ _; have h1 := HLQ.out; simp [natCells_length]; try omega
              have bA1 : Below wk.heap.size wk (wk.alloc (.cells #[] 3)).drew := ((Below.refl _ _).alloc (Nat.le_refl _) _).drew
              have bA2 : Below wk.heap.size wk ((wk.alloc (.cells #[] 3)).alloc (.cells #[.int .i64 (i : Int)] 3)).drew := (((Below.refl _ _).alloc (Nat.le_refl _) (.cells #[] 3)).alloc ((Below.refl _ _).alloc (Nat.le_refl _) (.cells #[] 3)).size _).drew
              have bB2 : Below wk.heap.size wk ((wk.alloc (.cells #[.int .i64 (i : Int)] 3)).alloc (.cells #[] 3)).drew := (((Below.refl _ _).alloc (Nat.le_refl _) (.cells #[.int .i64 (i : Int)] 3)).alloc ((Below.refl _ _).alloc (Nat.le_refl _) (.cells #[.int .i64 (i : Int)] 3)).size _).drew
              have oA1 : Own1 (wk.alloc (.cells #[] 3)).drew wk.heap.size 3 (.slice (some ⟨wk.heap.size, 0, none⟩) 0 0) [] := (Own1.lit wk [] rfl (Nat.le_refl _) rfl (by simp)).drew
              have oA2 : Own1 ((wk.alloc (.cells #[] 3)).alloc (.cells #[.int .i64 (i : Int)] 3)).drew wk.heap.size 3 (.slice (some ⟨wk.heap.size, 0, none⟩) 0 0) [] := ((Own1.lit wk [] rfl (Nat.le_refl _) rfl (by simp)).alloc _).drew
              have oB2 : Own1 ((wk.alloc (.cells #[.int .i64 (i : Int)] 3)).alloc (.cells #[] 3)).drew wk.heap.size 3 (.slice (some ⟨wk.heap.size + 1, 0, none⟩) 0 0) [] := (Own1.lit (wk.alloc (.cells #[.int .i64 (i : Int)] 3)) [] rfl (by simp [go_sem]) (by simp [go_sem]) (by simp)).drew
              have cA2 : ((wk.alloc (.cells #[] 3)).alloc (.cells #[.int .i64 (i : Int)] 3)).drew.cell? ⟨wk.heap.size + 1, 0, none⟩ = some (.int .i64 (i : Int)) := by simp [go_sem]
              have cB2 : ((wk.alloc (.cells #[.int .i64 (i : Int)] 3)).alloc (.cells #[] 3)).drew.cell? ⟨wk.heap.size, 0, none⟩ = some (.int .i64 (i : Int)) := by simp [go_sem]
              go_region_law (first
                | (refine step_cat1 info_int Tryd.underlying41 rfl (by decide) (.tmp 39) (.tmp 42) rfl rfl rfl rfl oA1 (SRC.out _ bA1).1 (natCells_one _) bA1.size L1.out ?_; intro v3 w3 ho3 hb3 hg3; have bk3 := bA1.trans hb3; have b3s := (bk3.alloc bk3.size (.cells #[.int .i64 (i : Int)] 3)).size; have bk3' : Below wk.heap.size wk (w3.alloc (.cells #[.int .i64 (i : Int)] 3)) := bk3.alloc bk3.size _; have ho3' : Own1 (w3.alloc (.cells #[.int .i64 (i : Int)] 3)) wk.heap.size 3 v3 ([] ++ natCells (Q.take k)) := ho3.alloc _; have c3 : (w3.alloc (.cells #[.int .i64 (i : Int)] 3)).cell? ⟨w3.heap.size, 0, none⟩ = some (.int .i64 (i : Int)) := by simp [go_sem])
                | (refine step_cat1 (v := .slice (some ⟨wk.heap.size, 0, none⟩) 0 0) info_int Tryd.underlying41 rfl (by decide) (.tmp 39) (.tmp 42) rfl rfl rfl rfl oA2 (SRC.out _ bA2).1 (natCells_one _) bA2.size L1.out ?_; intro v3 w3 ho3' hb3 hg3; have bk3' := bA2.trans hb3; have b3s := bk3'.size; have c3 := hg3.cell cA2 (by simp [Value.ownBlock]))
                | (refine step_cat1 (v := .slice (some ⟨wk.heap.size + 1, 0, none⟩) 0 0) info_int Tryd.underlying41 rfl (by decide) (.tmp 39) (.tmp 42) rfl rfl rfl rfl oB2 (SRC.out _ bB2).1 (natCells_one _) bB2.size L1.out ?_; intro v3 w3 ho3' hb3 hg3; have bk3' := bB2.trans hb3; have b3s := bk3'.size; have c3 := hg3.cell cB2 (by simp [Value.ownBlock]))
                | (refine step_push1 info_int Tryd.underlying41 rfl (by decide) (.tmp 43) (.tmp 45) rfl rfl rfl rfl ho3' b3s c3 rfl L2.out ?_; intro v4 w4 ho4 hg4 _ _; have bk4 : Below wk.heap.size wk w4 := Below.grown bk3' hg4 b3s (fun k hk => (World.ownsRow.lt ho3' k hk).1))
                | (refine step_cat1 info_int Tryd.underlying41 rfl (by decide) (.tmp 46) (.tmp 49) rfl rfl rfl rfl ho4 (SRC.out _ bk4).2 (natCells_one _) bk4.size L3.out ?_; intro v5 w5 ho5 hb5 _; have bk5 := bk4.trans hb5))
              all_goals
                have ho6 : Own1 w5 w.heap.size 3 v5 (natCells (insAt Q k i)) := by
                  have := ho5.mono hbk.size
                  simpa [insAt, natCells] using this
                have b6 := hbk.trans (bk5.mono hbk.size)
                clear ho5 bk5
                go_wp2_with fail
                go_roundw
                case rel => exact ⟨i + 1, insAt Q k i, by omega, by go_num, ho6, insAt_perm HPERM.out, insAt_sorted (pre_cfK K d) HPW.out HLT.out hkQ HHI.out HLO.out, fun h => by omega, b6⟩
                case measure => simp [intOf]; omega
          · obtain ⟨j, hj⟩ : ∃ j, k = j + 1 := ⟨k - 1, by omega⟩
            have hkz : decide ((0 : Int) < (k : Int)) = true := by simp; omega
            have hkn : decide (0 < k) = true := by simp; omega
            have c1 := ((HDA.out.keep hbx).cell (k := j) (by omega)).1
            have HNQ : Aside (nth Q (k - 1) = nth Q j) := by show _ = _; rw [hj, Nat.add_sub_cancel]
            obtain ⟨o, ho⟩ : ∃ o, o = cfK K d (nth Q j) i := ⟨_, rfl⟩
            have HO : Aside (o = cfK K d (nth Q j) i) := ho
            have HST : Aside (0 < o → ∀ l, j ≤ l → l < Q.length → 0 < cfK K d (nth Q l) i) := fun hp l h1 h2 => by
              by_cases hl : l = j
              · subst hl; rw [← ho]; exact hp
              · exact HHI.out l (by omega) h2
            have hc := fun W hW => ORDC.out W hW (nth Q j) i
            rw [← ho] at hc
            have HC : Aside _ := hc
            clear hc ho
            have hwj : IntKind.i64.wrap ((k : Int) - 1) = (j : Int) := by rw [IntKind.wrap_i64]; omega
            have z1 : (0 : Int) ≤ (j : Int) := by omega
            have z2 : (j : Int) < (i : Int) := by omega
            have hjk : ((k : Int) - 1) = (j : Int) := by omega
            have HJ : Aside (k = j + 1) := hj
            generalize nth Q j = q at c1 HNQ HO HC HST
            clear hj
            go_wp2_with fail
            refine (KEY.out _ (btrans hbel hbx) q).mono ?_
            rintro e w1 ⟨rfl, he1⟩
            subst he1
            go_wp2_with fail
            refine (KEY.out _ (btrans hbel hbx) i).mono ?_
            rintro e w2 ⟨rfl, he2⟩
            subst he2
            go_wp2_with fail
            refine (HC.out _ (btrans hbel hbx)).mono ?_
            rintro e w3 ⟨rfl, hb3⟩
            replace hbx := btrans hbx hb3
            clear hb3 c1 HC
            cases hz : decide (0 < o)
            · have hoz : o ≤ 0 := by simpa using hz
              go_wp2_with fail
              obtain ⟨wk, rfl⟩ : ∃ x, x = w3 := ⟨_, rfl⟩
              have HLO : Aside (k = 0 ∨ cfK K d (nth Q (k - 1)) i ≤ 0) := .inr (by rw [HNQ.out, ← HO.out]; exact hoz)
              have hkQ : k ≤ Q.length := by omega
              have HLQ : Aside (Q.length ≤ 1000) := by show _ ≤ _; omega
              have hbk := btrans hbel hbx
              have hownk := hown.keep hbx
              have t0 : (0 : Int) ≤ (k : Int) := by omega
              have t1 : (k : Int) ≤ (i : Int) := by omega
              have t2 : (i : Int) ≤ (cap : Int) := by omega
              have t3 : (k : Int) ≤ (cap : Int) := by omega
              by_cases hck : k = cap
              · have hik : i = k := by omega
                subst hck
                have SRC : Aside (∀ W, Below wk.heap.size wk W → LiesC W (.slice (some ⟨g, 0, none⟩) k k) (natCells (Q.take k)) ∧ LiesC W (.slice (some ⟨g, 0, none⟩) 0 0) (natCells (Q.drop k))) := fun W hW => by
                  have := (hownk.keep hW).lies
                  refine ⟨by have := this.take (k := k) (by rw [natCells_length]; omega); simpa [natCells, List.map_take] using this, ?_⟩
                  have e0 : Q.drop k = [] := List.drop_eq_nil_of_le (by omega)
                  rw [e0]
                  exact LiesC.empty W _ _
                have HIK : Hid (i = k) := hik
                clear hik
                have L1 : Aside (([] : List Value).length + (natCells (Q.take k)).length ≤ 1000000000) := by show _ ≤ _; have h1 := HLQ.out; simp [natCells_length]; try omega
                have L2 : Aside ((([] : List Value) ++ natCells (Q.take k)).length ≤ 1000000) := by show _ ≤ _; have h1 := HLQ.out; simp [natCells_length]; try omega
                have L3 : Aside (((([] : List Value) ++ natCells (Q.take k)) ++ [Value.int .i64 (i : Int)]).length + (natCells (Q.drop k)).length ≤ 1000000000) := by show _ ≤ _; have h1 := HLQ.out; simp [natCells_length]; try omega
                have bA1 : Below wk.heap.size wk (wk.alloc (.cells #[] 3)).drew := ((Below.refl _ _).alloc (Nat.le_refl _) _).drew
                have bA2 : Below wk.heap.size wk ((wk.alloc (.cells #[] 3)).alloc (.cells #[.int .i64 (i : Int)] 3)).drew := (((Below.refl _ _).alloc (Nat.le_refl _) (.cells #[] 3)).alloc ((Below.refl _ _).alloc (Nat.le_refl _) (.cells #[] 3)).size _).drew
                have bB2 : Below wk.heap.size wk ((wk.alloc (.cells #[.int .i64 (i : Int)] 3)).alloc (.cells #[] 3)).drew := (((Below.refl _ _).alloc (Nat.le_refl _) (.cells #[.int .i64 (i : Int)] 3)).alloc ((Below.refl _ _).alloc (Nat.le_refl _) (.cells #[.int .i64 (i : Int)] 3)).size _).drew
                have oA1 : Own1 (wk.alloc (.cells #[] 3)).drew wk.heap.size 3 (.slice (some ⟨wk.heap.size, 0, none⟩) 0 0) [] := (Own1.lit wk [] rfl (Nat.le_refl _) rfl (by simp)).drew
                have oA2 : Own1 ((wk.alloc (.cells #[] 3)).alloc (.cells #[.int .i64 (i : Int)] 3)).drew wk.heap.size 3 (.slice (some ⟨wk.heap.size, 0, none⟩) 0 0) [] := ((Own1.lit wk [] rfl (Nat.le_refl _) rfl (by simp)).alloc _).drew
                have oB2 : Own1 ((wk.alloc (.cells #[.int .i64 (i : Int)] 3)).alloc (.cells #[] 3)).drew wk.heap.size 3 (.slice (some ⟨wk.heap.size + 1, 0, none⟩) 0 0) [] := (Own1.lit (wk.alloc (.cells #[.int .i64 (i : Int)] 3)) [] rfl (by simp [go_sem]) (by simp [go_sem]) (by simp)).drew
                have cA2 : ((wk.alloc (.cells #[] 3)).alloc (.cells #[.int .i64 (i : Int)] 3)).drew.cell? ⟨wk.heap.size + 1, 0, none⟩ = some (.int .i64 (i : Int)) := by simp [go_sem]
                have cB2 : ((wk.alloc (.cells #[.int .i64 (i : Int)] 3)).alloc (.cells #[] 3)).drew.cell? ⟨wk.heap.size, 0, none⟩ = some (.int .i64 (i : Int)) := by simp [go_sem]
                go_region_law (first
                  | (refine step_cat1 info_int Tryd.underlying41 rfl (by decide) (.tmp 39) (.tmp 42) rfl rfl rfl rfl oA1 (SRC.out _ bA1).1 (natCells_one _) bA1.size L1.out ?_; intro v3 w3 ho3 hb3 hg3; have bk3 := bA1.trans hb3; have b3s := (bk3.alloc bk3.size (.cells #[.int .i64 (i : Int)] 3)).size; have bk3' : Below wk.heap.size wk (w3.alloc (.cells #[.int .i64 (i : Int)] 3)) := bk3.alloc bk3.size _; have ho3' : Own1 (w3.alloc (.cells #[.int .i64 (i : Int)] 3)) wk.heap.size 3 v3 ([] ++ natCells (Q.take k)) := ho3.alloc _; have c3 : (w3.alloc (.cells #[.int .i64 (i : Int)] 3)).cell? ⟨w3.heap.size, 0, none⟩ = some (.int .i64 (i : Int)) := by simp [go_sem])
                  | (refine step_cat1 (v := .slice (some ⟨wk.heap.size, 0, none⟩) 0 0) info_int Tryd.underlying41 rfl (by decide) (.tmp 39) (.tmp 42) rfl rfl rfl rfl oA2 (SRC.out _ bA2).1 (natCells_one _) bA2.size L1.out ?_; intro v3 w3 ho3' hb3 hg3; have bk3' := bA2.trans hb3; have b3s := bk3'.size; have c3 := hg3.cell cA2 (by simp [Value.ownBlock]))
                  | (refine step_cat1 (v := .slice (some ⟨wk.heap.size + 1, 0, none⟩) 0 0) info_int Tryd.underlying41 rfl (by decide) (.tmp 39) (.tmp 42) rfl rfl rfl rfl oB2 (SRC.out _ bB2).1 (natCells_one _) bB2.size L1.out ?_; intro v3 w3 ho3' hb3 hg3; have bk3' := bB2.trans hb3; have b3s := bk3'.size; have c3 := hg3.cell cB2 (by simp [Value.ownBlock]))
                  | (refine step_push1 info_int Tryd.underlying41 rfl (by decide) (.tmp 43) (.tmp 45) rfl rfl rfl rfl ho3' b3s c3 rfl L2.out ?_; intro v4 w4 ho4 hg4 _ _; have bk4 : Below wk.heap.size wk w4 := Below.grown bk3' hg4 b3s (fun k hk => (World.ownsRow.lt ho3' k hk).1))
                  | (refine step_cat1 info_int Tryd.underlying41 rfl (by decide) (.tmp 46) (.tmp 49) rfl rfl rfl rfl ho4 (SRC.out _ bk4).2 (natCells_one _) bk4.size L3.out ?_; intro v5 w5 ho5 hb5 _; have bk5 := bk4.trans hb5))
                all_goals
                  have ho6 : Own1 w5 w.heap.size 3 v5 (natCells (insAt Q k i)) := by
                    have := ho5.mono hbk.size
                    simpa [insAt, natCells] using this
                  have b6 := hbk.trans (bk5.mono hbk.size)
                  clear ho5 bk5
                  go_wp2_with fail
                  go_roundw
                  case rel => exact ⟨i + 1, insAt Q k i, by omega, by go_num, ho6, insAt_perm HPERM.out, insAt_sorted (pre_cfK K d) HPW.out HLT.out hkQ HHI.out HLO.out, fun h => by omega, b6⟩
                  case measure => simp [intOf]; omega
              · have hck2 : ¬ cap = k := fun h => hck h.symm
                have SRC : Aside (∀ W, Below wk.heap.size wk W → LiesC W (.slice (some ⟨g, 0, none⟩) k cap) (natCells (Q.take k)) ∧ LiesC W (.slice (some ⟨g, k, none⟩) (i - k) (cap - k)) (natCells (Q.drop k))) := fun W hW => by
                  have := (hownk.keep hW).lies
                  refine ⟨by have := this.take (k := k) (by rw [natCells_length]; omega); simpa [natCells, List.map_take] using this, ?_⟩
                  have := this.drop (k := k) (by rw [natCells_length]; omega)
                  rw [Nat.zero_add] at this
                  simpa [natCells, List.map_drop] using this
                have L1 : Aside (([] : List Value).length + (natCells (Q.take k)).length ≤ 1000000000) := by show _ ≤ _; have h1 := HLQ.out; simp [natCells_length]; try omega
                have L2 : Aside ((([] : List Value) ++ natCells (Q.take k)).length ≤ 1000000) := by show _ ≤ _; have h1 := HLQ.out; simp [natCells_length]; try omega
                have L3 : Aside (((([] : List Value) ++ natCells (Q.take k)) ++ [Value.int .i64 (i : Int)]).length + (natCells (Q.drop k)).length ≤ 1000000000) := by show _ ≤ _; have h1 := HLQ.out; simp [natCells_length]; try omega
                have bA1 : Below wk.heap.size wk (wk.alloc (.cells #[] 3)).drew := ((Below.refl _ _).alloc (Nat.le_refl _) _).drew
                have bA2 : Below wk.heap.size wk ((wk.alloc (.cells #[] 3)).alloc (.cells #[.int .i64 (i : Int)] 3)).drew := (((Below.refl _ _).alloc (Nat.le_refl _) (.cells #[] 3)).alloc ((Below.refl _ _).alloc (Nat.le_refl _) (.cells #[] 3)).size _).drew
                have bB2 : Below wk.heap.size wk ((wk.alloc (.cells #[.int .i64 (i : Int)] 3)).alloc (.cells #[] 3)).drew := (((Below.refl _ _).alloc (Nat.le_refl _) (.cells #[.int .i64 (i : Int)] 3)).alloc ((Below.refl _ _).alloc (Nat.le_refl _) (.cells #[.int .i64 (i : Int)] 3)).size _).drew
                have oA1 : Own1 (wk.alloc (.cells #[] 3)).drew wk.heap.size 3 (.slice (some ⟨wk.heap.size, 0, none⟩) 0 0) [] := (Own1.lit wk [] rfl (Nat.le_refl _) rfl (by simp)).drew
                have oA2 : Own1 ((wk.alloc (.cells #[] 3)).alloc (.cells #[.int .i64 (i : Int)] 3)).drew wk.heap.size 3 (.slice (some ⟨wk.heap.size, 0, none⟩) 0 0) [] := ((Own1.lit wk [] rfl (Nat.le_refl _) rfl (by simp)).alloc _).drew
                have oB2 : Own1 ((wk.alloc (.cells #[.int .i64 (i : Int)] 3)).alloc (.cells #[] 3)).drew wk.heap.size 3 (.slice (some ⟨wk.heap.size + 1, 0, none⟩) 0 0) [] := (Own1.lit (wk.alloc (.cells #[.int .i64 (i : Int)] 3)) [] rfl (by simp [go_sem]) (by simp [go_sem]) (by simp)).drew
                have cA2 : ((wk.alloc (.cells #[] 3)).alloc (.cells #[.int .i64 (i : Int)] 3)).drew.cell? ⟨wk.heap.size + 1, 0, none⟩ = some (.int .i64 (i : Int)) := by simp [go_sem]
                have cB2 : ((wk.alloc (.cells #[.int .i64 (i : Int)] 3)).alloc (.cells #[] 3)).drew.cell? ⟨wk.heap.size, 0, none⟩ = some (.int .i64 (i : Int)) := by simp [go_sem]
                go_region_law (first
                  | (refine step_cat1 info_int Tryd.underlying41 rfl (by decide) (.tmp 39) (.tmp 42) rfl rfl rfl rfl oA1 (SRC.out _ bA1).1 (natCells_one _) bA1.size L1.out ?_; intro v3 w3 ho3 hb3 hg3; have bk3 := bA1.trans hb3; have b3s := (bk3.alloc bk3.size (.cells #[.int .i64 (i : Int)] 3)).size; have bk3' : Below wk.heap.size wk (w3.alloc (.cells #[.int .i64 (i : Int)] 3)) := bk3.alloc bk3.size _; have ho3' : Own1 (w3.alloc (.cells #[.int .i64 (i : Int)] 3)) wk.heap.size 3 v3 ([] ++ natCells (Q.take k)) := ho3.alloc _; have c3 : (w3.alloc (.cells #[.int .i64 (i : Int)] 3)).cell? ⟨w3.heap.size, 0, none⟩ = some (.int .i64 (i : Int)) := by simp [go_sem])
                  | (refine step_cat1 (v := .slice (some ⟨wk.heap.size, 0, none⟩) 0 0) info_int Tryd.underlying41 rfl (by decide) (.tmp 39) (.tmp 42) rfl rfl rfl rfl oA2 (SRC.out _ bA2).1 (natCells_one _) bA2.size L1.out ?_; intro v3 w3 ho3' hb3 hg3; have bk3' := bA2.trans hb3; have b3s := bk3'.size; have c3 := hg3.cell cA2 (by simp [Value.ownBlock]))
                  | (refine step_cat1 (v := .slice (some ⟨wk.heap.size + 1, 0, none⟩) 0 0) info_int Tryd.underlying41 rfl (by decide) (.tmp 39) (.tmp 42) rfl rfl rfl rfl oB2 (SRC.out _ bB2).1 (natCells_one _) bB2.size L1.out ?_; intro v3 w3 ho3' hb3 hg3; have bk3' := bB2.trans hb3; have b3s := bk3'.size; have c3 := hg3.cell cB2 (by simp [Value.ownBlock]))
                  | (refine step_push1 info_int Tryd.underlying41 rfl (by decide) (.tmp 43) (.tmp 45) rfl rfl rfl rfl ho3' b3s c3 rfl L2.out ?_; intro v4 w4 ho4 hg4 _ _; have bk4 : Below wk.heap.size wk w4 := Below.grown bk3' hg4 b3s (fun k hk => (World.ownsRow.lt ho3' k hk).1))
                  | (refine step_cat1 info_int Tryd.underlying41 rfl (by decide) (.tmp 46) (.tmp 49) rfl rfl rfl rfl ho4 (SRC.out _ bk4).2 (natCells_one _) bk4.size L3.out ?_; intro v5 w5 ho5 hb5 _; have bk5 := bk4.trans hb5))
                all_goals
                  have ho6 : Own1 w5 w.heap.size 3 v5 (natCells (insAt Q k i)) := by
                    have := ho5.mono hbk.size
                    simpa [insAt, natCells] using this
                  have b6 := hbk.trans (bk5.mono hbk.size)
                  clear ho5 bk5
                  go_wp2_with fail
                  go_roundw
                  case rel => exact ⟨i + 1, insAt Q k i, by omega, by go_num, ho6, insAt_perm HPERM.out, insAt_sorted (pre_cfK K d) HPW.out HLT.out hkQ HHI.out HLO.out, fun h => by omega, b6⟩
                  case measure => simp [intOf]; omega
            · have hoz : 0 < o := by simpa using hz
              have HS2 : Aside _ := HST.out hoz
              have HJ2 := HJ.out
              clear hoz
              go_wp2_with fail
              go_roundw
              case rel => exact ⟨j, by omega, by go_num, HS2.out, hbx⟩
              case measure => simp [intOf]; omega
    · have hit : decide ((i : Int) < (n : Int)) = false := by simp; omega
      have hin : i = n := by omega
      subst hin
      have hQl : Q.length = i := by have := HPERM.out.length_eq; simpa using this
      have HQLT : Aside (∀ j, j < i → nth Q j < i) := fun j hj => by rw [nth_get (by omega)]; exact HLT.out _ (List.getElem_mem _)
      have HQL : Aside (Q.length = i) := hQl
      obtain ⟨ao, cap, rfl⟩ := hown.shapeN (n := i) (by rw [natCells_length, hQl])
      obtain ⟨wx, rfl⟩ : ∃ x, x = wr := ⟨_, rfl⟩
      have HTK : Aside (∀ j, j < i → (rowsBy L Q).take (j + 1) = (rowsBy L Q).take j ++ [L.getD (nth Q j) []]) := fun j hj => by
        have hj' : j < (rowsBy L Q).length := by simp [rowsBy]; omega
        rw [List.take_succ_eq_append_getElem hj', rowsBy_at]
      have HTA : Aside ((rowsBy L Q).take i = rowsBy L Q) := by show _ = _; rw [List.take_of_length_le]; simp [rowsBy]; omega
      clear hx0 KEY ORDC hQl hi hi' HLT
      go_wp2_with fail
      go_loopw [10, 11] (fun y iv wr => ∃ (j : Nat) (ys : List Value), j ≤ i ∧ iv = .int .i64 j ∧ Own1 wr wx.heap.size 30 y ys ∧ AllLie w ys ((rowsBy L Q).take j) ∧ Below wx.heap.size wx wr) (fun _ iv _ => i - (intOf iv).toNat)
      case atStart => exact ⟨0, [], Nat.zero_le _, rfl, Own1.nil _ _ _, AllLie.nil _, Below.refl _ _⟩
      case round =>
        obtain ⟨j, ys, hj', rfl, hoy, hall, hbx⟩ := hrel
        have hsz := hbx.size
        by_cases hj : j < i
        · have hjt : decide ((j : Int) < (i : Int)) = true := by simp; omega
          obtain ⟨g, rfl, _, c0, _⟩ := hown.cell (i := j) (by rw [natCells_length, HQL.out]; exact hj)
          have c1 : wr.cell? ⟨g, j, none⟩ = some (.int .i64 (nth Q j : Int)) := by
            rw [nth_get (by rw [HQL.out]; exact hj)]
            simpa [natCells] using cell_keep c0 hbx
          have hq := HQLT.out j hj
          have T1 : Aside _ := HTK.out j hj
          have hyl : ys.length ≤ 1000 := by rw [hall.1]; simp [rowsBy]; omega
          generalize nth Q j = q at c1 hq T1
          obtain ⟨lb, lof, lc, hle, hr⟩ := hl.acc HLEN.out hq
          simp only [Value.slice.injEq] at hle
          obtain ⟨rfl, _, rfl⟩ := hle
          obtain ⟨r, c2w, d2w⟩ := hr w (Below.refl _ _) q hq
          obtain ⟨yo, yc, rfl⟩ := d2w.form
          have c2 := cell_keep c2w (btrans hbel hbx)
          generalize L.getD q [] = R at d2w c2 T1 c2w
          have hy1 : ∀ z ∈ [Value.slice yo R.length yc], z.oneCell' = true := by intro z h; rw [List.mem_singleton.1 h]; rfl
          have z1 : (0 : Int) ≤ (j : Int) := by omega
          have z2 : (j : Int) < (i : Int) := by omega
          have z3 : (0 : Int) ≤ (q : Int) := by omega
          have z4 : (q : Int) < (i : Int) := by omega
          obtain ⟨ya, ycp, rfl⟩ := hoy.shape
          clear c0 c2w hr
          go_wp2_with (at_builtin; refine wpList_push1 info_R Tryd.underlying22 rfl (by decide) (.tmp 57) (.tmp 65) rfl rfl rfl (ys := [.slice yo R.length yc]) rfl rfl rfl hoy hy1 hsz (by simp; omega) ?_; intro v2 w2 hr2 hb2 hg2)
          go_roundw
          case rel => exact ⟨j + 1, ys ++ [.slice yo R.length yc], by omega, by go_num, hr2, by rw [T1.out]; exact hall.snoc d2w, hbx.trans hb2⟩
          case measure => simp [intOf]; omega
        · have hjt : decide ((j : Int) < (i : Int)) = false := by simp; omega
          have hji : j = i := by omega
          subst hji
          rw [HTA.out] at hall
          clear hown
          go_wp2_with fail
          go_ret
          exact ⟨_, Q, rfl, HPERM.out, HPW.out, hoy.rows hall (btrans hbel hbx), btrans hbel hbx⟩

end Go.Proofs.YtalfeggddfpgeaaDoor
