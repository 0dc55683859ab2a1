/- slices.Grow, slices.Concat and Union. -/
import Derived.Test.YtafbgmpbfonljaaDoorRwSets
import Derived.Test.YtafbgmpbfonljaaDoorRwFew
import Derived.Lib.AppendZeros
namespace Go.Proofs.YtafbgmpbfonljaaDoor
open Go.RowKit Go.Sort

theorem size_zeroCells (z : Array Value) (n : Nat) : (Builtin.zeroCells z n).size = n * z.size := by simp [Builtin.zeroCells]

set_option maxHeartbeats 1000000 in
theorem grow_any (w : World) (n : Nat) (hn : n ≤ 10000) :
    Calls Tryd.prog 48 #[.slice none 0 0, .int .i64 n] w fun e w' => ∃ u, e = .returned u ∧ Own1 w' w.heap.size 40 u [] ∧ Below w.heap.size w w' := by
  by_cases h0 : n = 0
  · subst h0
    go_enter Tryd.func48, Tryd.ntmps48
    go_wp2
    go_ret
    exact ⟨_, rfl, Own1.nil _ _ _, Below.refl _ _⟩
  · obtain ⟨i0, hi, hz0, hz1, hz2⟩ := info_parts info_R
    have hnb : decide ((n : Int) < 0) = false := by simp
    have hpos : decide (0 < (n : Int)) = true := by simp; omega
    have hrun := fun ty => Lib.run_append_nil_zeros (P := Tryd.prog) w 22 3 ty 40 i0 _ .i64 .i64 Tryd.underlying22 Tryd.underlying3 hi hz0 n (by omega) (by omega) (by omega) (by rw [hz2]; omega)
    have hcm := grownCap_le_maxLen w n 0 40 (by unfold maxLen; omega)
    have hcg := grownCap_ge w n 0 40
    have HC : Aside (Own1 (w.drew.alloc (.cells (Builtin.zeroCells (Value.cells (.slice none 0 0)) n ++ Builtin.zeroCells (Value.cells (.slice none 0 0)) (grownCap w n 0 40 - n)) 40)) w.heap.size 40 (.slice (some ⟨w.heap.size, 0, none⟩) 0 (grownCap w n 0 40)) []) := by
      refine World.ownsRow_made (base := w.heap.size) (e := 40) (size := 1) w.drew _ _ (Nat.le_refl _) hcm ?_
      rw [Array.size_append, size_zeroCells, size_zeroCells]
      show n * 1 + (_ - n) * 1 = _ * 1
      omega
    have HB : Aside (Below w.heap.size w (w.drew.alloc (.cells (Builtin.zeroCells (Value.cells (.slice none 0 0)) n ++ Builtin.zeroCells (Value.cells (.slice none 0 0)) (grownCap w n 0 40 - n)) 40))) := ((Below.refl _ w).drew).alloc (Nat.le_refl _) _
    generalize w.drew.alloc (.cells (Builtin.zeroCells (Value.cells (.slice none 0 0)) n ++ Builtin.zeroCells (Value.cells (.slice none 0 0)) (grownCap w n 0 40 - n)) 40) = w1 at hrun HC HB
    generalize grownCap w n 0 40 = C at hrun HC hcm hcg
    have HR : Aside _ := hrun
    have hcz : (0 : Int) ≤ (C : Int) := by omega
    clear hrun hi hz0 hz1 hz2 hcm i0 hcg
    go_enter Tryd.func48, Tryd.ntmps48
    go_wp2_with (at_builtin; refine Lib.wpList_append_run _ rfl (.tmp 20) (.tmp 21) _ _ rfl _ _ rfl rfl _ _ (HR.out _) ?_)
    go_ret
    exact ⟨_, rfl, HC.out, HB.out⟩

theorem AllLie.append {w : World} {xs ys : List Value} {L M : List Row} (h : AllLie w xs L) (k : AllLie w ys M) : AllLie w (xs ++ ys) (L ++ M) := by
  refine ⟨by simp [h.1, k.1], fun i h1 h2 => ?_⟩
  by_cases c : i < xs.length
  · have c' : i < L.length := by rw [← h.1]; exact c
    rw [List.getElem_append_left c, List.getElem_append_left c']
    exact h.2 i c c'
  · have c' : ¬ i < L.length := by rw [← h.1]; exact c
    rw [List.getElem_append_right (by omega), List.getElem_append_right (by omega)]
    have := k.2 (i - xs.length) (by simp at h1; omega) (by simp at h2; have := h.1; omega)
    have e : i - L.length = i - xs.length := by rw [h.1]
    simpa [e] using this
theorem flat_take {LL : List (List Row)} {k : Nat} (h : k < LL.length) : (LL.take (k + 1)).flatten = (LL.take k).flatten ++ LL[k] := by
  rw [List.take_succ_eq_append_getElem h, List.flatten_append]; simp
theorem flat_take_le (LL : List (List Row)) (k : Nat) : (LL.take k).flatten.length ≤ LL.flatten.length := by
  have : LL.flatten = (LL.take k).flatten ++ (LL.drop k).flatten := by rw [← List.flatten_append, List.take_append_drop]
  rw [this, List.length_append]; omega
theorem LiesLL.keep {w w' : World} {v : Value} {LL : List (List Row)} (h : LiesLL w v LL) (k : Below w.heap.size w w') : LiesLL w' v LL := by
  obtain ⟨ao, cap, rfl, hc⟩ := h
  refine ⟨ao, cap, rfl, fun i hi => ?_⟩
  obtain ⟨b, off, r, h0, h1, h2⟩ := hc i hi
  exact ⟨b, off, r, h0, cell_keep h1 k, h2.keep k⟩

set_option maxHeartbeats 2000000 in
theorem concat_any (w : World) (v : Value) (LL : List (List Row)) (hl : LiesLL w v LL) (hn : LL.length ≤ 10) (hf : LL.flatten.length ≤ 1000) :
    Calls Tryd.prog 32 #[v] w fun e w' => ∃ u, e = .returned u ∧ LiesR w' u LL.flatten ∧ Below w.heap.size w w' := by
  obtain ⟨ao, cap, rfl, hc⟩ := hl
  go_enter Tryd.func32, Tryd.ntmps32
  go_wp2
  go_loopw [3, 11] (fun z i wr => ∃ k : Nat, k ≤ LL.length ∧ i = .int .i64 k ∧ z = .int .i64 ((LL.take k).flatten.length : Int) ∧ w = wr) (fun _ i _ => LL.length - (intOf i).toNat)
  case atStart => exact ⟨0, Nat.zero_le _, rfl, by simp, rfl⟩
  case round =>
    obtain ⟨k, hk, rfl, rfl, rfl⟩ := hrel
    have HLE := flat_take_le LL k
    by_cases hlt : k < LL.length
    · obtain ⟨b, off, x, rfl, c1, c2⟩ := hc k hlt
      obtain ⟨ao2, cap2, rfl, _, _⟩ := c2
      have HT : Hid ((LL.take (k + 1)).flatten.length = (LL.take k).flatten.length + LL[k].length) := by show _ = _; rw [flat_take hlt, List.length_append]
      have HLE2 := flat_take_le LL (k + 1)
      rw [HT.out] at HLE2
      generalize (LL.take k).flatten.length = s at HT HLE HLE2 ⊢
      generalize LL[k].length = m at HT c1 HLE2 ⊢
      have HC : Aside _ := hc
      clear hc
      have hsn : decide ((s : Int) + (m : Int) < 0) = false := by simp; omega
      go_wp2
      go_roundw
      case rel => exact ⟨k + 1, by omega, by go_num, by rw [HT.out]; go_num, by first | rfl | trivial⟩
      case measure => simp [intOf]; omega
    · have hkk : k = LL.length := by omega
      subst hkk
      rw [List.take_length]
      have HC : Aside _ := hc
      have HF : Aside (LL.flatten.length ≤ 1000) := hf
      clear hc HLE
      generalize LL.flatten.length = F at hf ⊢
      go_wp2_with fail
      refine (grow_any _ _ (by omega)).mono ?_
      rintro e w1 ⟨u, rfl, hu, hb1⟩
      go_wp2_with fail
      have hc := HC.out
      go_loopw [6, 27] (fun x i wr => ∃ (k : Nat) (xs : List Value), k ≤ LL.length ∧ i = .int .i64 k ∧ Own1 wr w.heap.size 40 x xs ∧ AllLie w xs (LL.take k).flatten ∧ Below w.heap.size w wr) (fun _ i _ => LL.length - (intOf i).toNat)
      case atStart => exact ⟨0, [], Nat.zero_le _, rfl, hu, AllLie.nil _, hb1⟩
      case round =>
        clear hu hb1
        obtain ⟨k, xs, hk, rfl, hown, hall, hbel⟩ := hrel
        have hsz := hbel.size
        by_cases hlt : k < LL.length
        · obtain ⟨b, off, x, rfl, c1, c2⟩ := hc k hlt
          have HT : Hid ((LL.take (k + 1)).flatten = (LL.take k).flatten ++ LL[k]) := flat_take hlt
          have HLE2 := flat_take_le LL (k + 1)
          rw [HT.out, List.length_append] at HLE2
          have hf := HF.out
          obtain ⟨ys, hy1, hy2⟩ := c2.cells
          have g1 := cell_keep c1 hbel
          have hxl := hall.1
          have hyl := hy2.1
          generalize LL[k] = M at HT HLE2 hy2 hyl
          have HA : Aside (AllLie w xs (LL.take k).flatten) := hall
          have HC2 : Aside (AllLie w ys M) := hy2
          have HC3 : Aside _ := hc
          have hxl' : xs.length + ys.length ≤ 1000000000 := by omega
          have hy1' := hy1.keep hbel
          have hyo := hy2.one
          clear hc hall hy2 hxl hyl hy1 c2 c1
          go_wp2_with (at_builtin; refine wpList_cat1 info_R Tryd.underlying22 rfl (by decide) (.tmp 31) (.tmp 32) rfl rfl rfl rfl hown hy1' hyo hsz hxl' ?_; intro v2 w2 hr2 hb2 hg2)
          go_roundw
          case rel => exact ⟨k + 1, xs ++ ys, by omega, by go_num, hr2, by rw [HT.out]; exact HA.out.append HC2.out, hbel.trans hb2⟩
          case measure => simp [intOf]; omega
        · have hkk : k = LL.length := by omega
          subst hkk
          rw [List.take_length] at hall
          go_wp2_with fail
          go_ret
          exact ⟨_, rfl, hown.rows hall hbel, hbel⟩

theorem LiesLL.two {w : World} {v u : Value} {A B : List Row} (hA : LiesR w v A) (hB : LiesR w u B) : LiesLL (w.alloc (.cells #[v, u] 22)) (.slice (some ⟨w.heap.size, 0, none⟩) 2 2) [A, B] := by
  have hk : Below w.heap.size w (w.alloc (.cells #[v, u] 22)) := (Below.refl _ _).alloc (Nat.le_refl _) _
  refine ⟨_, 2, rfl, fun i hi => ⟨w.heap.size, 0, ?_⟩⟩
  match i, hi with
  | 0, _ => exact ⟨v, rfl, by simp [go_sem], hA.keep hk⟩
  | 1, _ => exact ⟨u, rfl, by simp [go_sem], hB.keep hk⟩

set_option maxHeartbeats 1000000 in
theorem union_any (w : World) (v u : Value) (A B : List Row) (hA : LiesR w v A) (hB : LiesR w u B) (rA : RightL A) (rB : RightL B) (la : A.length ≤ 400) (lb : B.length ≤ 400) :
    Calls Tryd.prog 14 #[v, u] w fun e w' => ∃ x, e = .returned x ∧ LiesR w' x (distR (A ++ B)) ∧ Below w.heap.size w w' := by
  obtain ⟨ao, ac, hv, _, _⟩ := id hA
  obtain ⟨bo, bc, hu, _, _⟩ := id hB
  have h2 := LiesLL.two hA hB
  subst hv hu
  clear hA hB
  have hf : [A, B].flatten = A ++ B := by simp
  have hcon := concat_any _ _ [A, B] h2 (by simp) (by simp; omega)
  rw [hf] at hcon
  clear h2 hf
  go_enter Tryd.func14, Tryd.ntmps14
  go_wp2_with fail
  refine hcon.mono ?_
  rintro e w1 ⟨x, rfl, hx, hb1⟩
  go_wp2_with fail
  refine (distinct_any _ _ (A ++ B) hx (fun r hr => by rcases List.mem_append.1 hr with h | h; exact rA r h; exact rB r h) (by simp; omega)).mono ?_
  rintro e w2 ⟨y, rfl, hy, hb2⟩
  go_wp2_with fail
  go_ret
  exact ⟨_, rfl, hy, btrans (bnew hb1) hb2⟩

end Go.Proofs.YtafbgmpbfonljaaDoor
