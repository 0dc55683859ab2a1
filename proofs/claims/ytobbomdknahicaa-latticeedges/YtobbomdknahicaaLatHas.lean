/- Contracts of the program's has, isLevel and first. -/
import Derived.Test.YtobbomdknahicaaLatMem
import Derived.Deep.DeepCutAuto
namespace Go.Proofs.Ytobbomdknahicaa
open Go.RowKit Go.Sort

theorem bit_and {s a : Nat} (hs : s < 65536) : (bits .and .u32 ((s : Int) / 2 ^ a) 1 == 1) = s.testBit a := by
  have h := u32_and_nat (s / 2 ^ a) 1 (Nat.lt_of_le_of_lt (Nat.div_le_self _ _) (by omega)) (by decide)
  rw [nat_mask1, Int.natCast_ediv, Int.natCast_pow] at h
  have h' : bits .and .u32 ((s : Int) / 2 ^ a) 1 = ((s / 2 ^ a % 2 : Nat) : Int) := h
  rw [h', ← bit_mod]
  generalize s / 2 ^ a % 2 = m
  rw [Bool.eq_iff_iff, beq_iff_eq, beq_iff_eq]
  omega
theorem has_any (w : World) (s a : Nat) (hs : s < 65536) (ha : a < 16) :
    Calls Try.prog 39 #[.int .u32 (s : Int), .int .i64 (a : Int)] w fun e w' => e = .returned (.bool (s.testBit a)) ∧ Below w.heap.size w w' := by
  have HX : Hid ((bits .and .u32 ((s : Int) / 2 ^ a) 1 == 1) = s.testBit a) := bit_and hs
  have h0 : (0 : Int) ≤ (a : Int) := by omega
  have h1 : (a : Int) < 16 := by omega
  go_enter Try.func39, Try.ntmps39
  go_wp2_with fail
  go_ret
  exact ⟨ret_bool HX.out, Below.refl _ _⟩

theorem isLevel_any (w : World) (q n cap : Nat) (ao : Option Addr) (hn : w.cell? ⟨q, 0, none⟩ = some (.slice ao n cap)) (a : Int) :
    Calls Try.prog 38 #[.pointer (some ⟨q, 0, none⟩), .int .i64 a] w fun e w' => e = .returned (.bool (isI n a)) ∧ Below w.heap.size w w' := by
  have HX : Hid (isI n a = (decide (0 ≤ a) && decide (a < n))) := rfl
  by_cases ha : 0 ≤ a
  · go_enter Try.func38, Try.ntmps38
    go_wp2_with fail
    go_ret
    exact ⟨ret_bool (by rw [HX.out]; simp [ha]), Below.refl _ _⟩
  · go_enter Try.func38, Try.ntmps38
    go_wp2_with fail
    go_ret
    exact ⟨ret_bool (by rw [HX.out, decide_eq_false (by omega)]; rfl), Below.refl _ _⟩
theorem isLevel_nil (w : World) (a : Int) :
    Calls Try.prog 38 #[.pointer none, .int .i64 a] w fun e w' => e = .returned (.bool false) ∧ Below w.heap.size w w' := by
  go_enter Try.func38, Try.ntmps38
  go_wp2_with fail
  go_ret
  exact ⟨rfl, Below.refl _ _⟩

theorem under_masks : Try.prog.underlying 55 = some (.array 16 54) := by kernel_rfl
theorem size_masks : (Try.prog.info? 55).map (·.size) = some 16 := by kernel_rfl

theorem and_not {s r : Nat} (hs : s < 65536) (hr : r < 65536) : (bits .andNot .u32 (s : Int) (r : Int) == 0) = subB s r := by
  rw [u32_andNot_nat s r (by omega) (by omega)]
  unfold subB
  generalize s &&& (4294967295 - r) = m
  rw [Bool.eq_iff_iff, beq_iff_eq, beq_iff_eq]
  omega

theorem run_index_mask (w : World) {l : List Value} {k : Nat} {v : Value} (hk : k < 16) (hl : l[k]? = some v) :
    (Instr.index 55 (.agg l.toArray) (.int .i64 (k : Int))).run Try.prog w = .ok v w := by
  have h0 : (0 : Int) ≤ (k : Int) := by omega
  simp [Instr.index, go_sem, h0, hk, hl]

set_option maxHeartbeats 1000000 in
theorem first_any (w : World) (s : Nat) (A : Nat → Nat) (hs : s < 65536) (hA : ∀ a, A a < 65536) :
    Calls Try.prog 37 #[.int .u32 (s : Int), .agg (maskCells A).toArray] w fun e w' => e = .returned (.int .i64 (firstM s A)) ∧ Below w.heap.size w w' := by
  obtain ⟨l, hl⟩ : ∃ l : List Value, l = maskCells A := ⟨_, rfl⟩
  rw [← hl]
  have hz : l.length = 16 := by rw [hl]; exact maskCells_length A
  have hat : ∀ k, k < 16 → l[k]? = some (.int .u32 (A k : Int)) := fun k hk => by rw [hl]; exact maskCells_at hk
  clear hl
  have hld : (w.alloc (.cells l.toArray 55)).rangeAt w.heap.size 0 l := fun j v hj => by
    rw [cell_of_row _ _ _ _ _ (0, 0) (heap_alloc_last w _), Nat.zero_add]
    simpa using hj
  go_enter Try.func37, Try.ntmps37
  go_upto_region 1 with fail
  refine wp_region_lit ?_
  refine wpList_load_mid rfl 55 (.tmp 3) rfl w.heap.size 0 rfl l _ hld under_masks rfl (by rw [hz]; exact size_masks) ?_
  go_wp2_with fail
  clear hld
  go_loopw [8] (fun i wr => ∃ k : Nat, k ≤ 16 ∧ i = .int .i64 k ∧ Below w.heap.size w wr ∧ ∀ c, c < k → (s.testBit c && subB s (A c)) = false) (fun i _ => 16 - (intOf i).toNat)
  case atStart => exact ⟨0, by omega, rfl, bnew (Below.refl _ _), fun c hc => absurd hc (by omega)⟩
  case round =>
    obtain ⟨k, hkl, rfl, hbel, hno⟩ := hrel
    have HN : Hid (∀ c, c < k → (s.testBit c && subB s (A c)) = false) := hno
    clear hno
    by_cases h1 : k < 16
    · have hk := run_index_mask wr h1 (hat k h1)
      have i0 : (0 : Int) ≤ (k : Int) := by omega
      have i1 : (k : Int) < 16 := by omega
      have hh := has_any wr s k hs h1
      have hq := and_not hs (hA k)
      have HX : Hid ((s.testBit k && subB s (A k)) = true → firstM s A = (k : Int)) := fun h => firstI_some h1 h HN.out
      clear hat
      cases c1 : s.testBit k
      · rw [c1] at hh
        go_wp2_with fail
        refine hh.mono ?_
        rintro e w1 ⟨rfl, b1⟩
        replace b1 := btrans hbel b1
        go_wp2_with fail
        go_roundw
        case rel => exact ⟨k + 1, by omega, by go_num, b1, fun c hc => by
          by_cases e : c < k
          · exact HN.out c e
          · have : c = k := by omega
            subst this; rw [c1]; rfl⟩
        case measure => simp [intOf]; omega
      · rw [c1] at hh
        cases c2 : subB s (A k)
        · rw [c2] at hq
          go_wp2_with fail
          refine hh.mono ?_
          rintro e w1 ⟨rfl, b1⟩
          replace b1 := btrans hbel b1
          go_wp2_with fail
          go_roundw
          case rel => exact ⟨k + 1, by omega, by go_num, b1, fun c hc => by
            by_cases e : c < k
            · exact HN.out c e
            · have : c = k := by omega
              subst this; rw [c2, Bool.and_false]⟩
          case measure => simp [intOf]; omega
        · rw [c2] at hq
          go_wp2_with fail
          refine hh.mono ?_
          rintro e w1 ⟨rfl, b1⟩
          replace b1 := btrans hbel b1
          go_wp2_with fail
          go_ret
          exact ⟨ret_int (HX.out (by rw [c1, c2]; rfl)).symm, b1⟩
    · have HX : Hid (firstM s A = -1) := firstI_none fun c hc => HN.out c (by omega)
      have hk : k = 16 := by omega
      subst hk
      clear hat
      go_wp2_with fail
      go_ret
      exact ⟨ret_int HX.out.symm, hbel⟩

end Go.Proofs.Ytobbomdknahicaa
