/- Contract of the document's own next. -/
import Derived.Test.YthbmcfbchomckaaDecSpec
namespace Go.Proofs.Ythbmcfbchomckaa
open Go.RowKit Go.Sort

def nextRes (n : Nat) : Option (Ent × List UInt8) → Value
  | none => .tuple #[V 0 0 E0, .int .i64 0, .int .i64 10]
  | some p => if tooLong p.1 = true then .tuple #[V 0 0 E0, .int .i64 0, .int .i64 8] else .tuple #[V p.1.1 p.1.2.1 p.1.2.2, .int .i64 ((n - p.2.length : Nat) : Int), .int .i64 0]

theorem or256 {B : Nat} (c : UInt8) (h : B < 72057594037927936) : IntKind.u64.wrap (256 * (B : Int) + IntKind.u64.wrap (c.toNat : Int)) = ((B * 256 + c.toNat : Nat) : Int) := by
  have hc := c.toNat_lt
  have hw : ∀ z, IntKind.u64.wrap z = z % 18446744073709551616 := fun z => by simp [IntKind.wrap, IntKind.signed, IntKind.bits]
  rw [hw, hw]
  omega
theorem minus_u64 {B : Nat} (h : B < 18446744073709551616) : IntKind.i64.wrap (IntKind.u64.wrap ((B : Int) - 9223372036854775808)) = (B : Int) - 9223372036854775808 := by
  have hw : ∀ z, IntKind.u64.wrap z = z % 18446744073709551616 := fun z => by simp [IntKind.wrap, IntKind.signed, IntKind.bits]
  have hw' : ∀ z, IntKind.i64.wrap z = if 9223372036854775808 ≤ z % 18446744073709551616 then z % 18446744073709551616 - 18446744073709551616 else z % 18446744073709551616 := fun z => by simp [IntKind.wrap, IntKind.signed, IntKind.bits]
  rw [hw, hw']
  split <;> omega

set_option maxHeartbeats 4000000 in
theorem next_num (s : ByteArray) (hs : s.size ≤ 1000000) (h0 : 0 < s.size) (h4 : s[0] = 4) (w : World) :
    Calls Try.prog 25 #[.string s] w fun e w' => e = .returned (nextRes s.size (takeV s.data.toList)) ∧ Below w.heap.size w w' := by
  have HL : Hid (s.data.toList = 4 :: s.data.toList.drop 1) := by
    show s.data.toList = _
    have := drop_succ s 0 h0
    rw [List.drop_zero] at this
    rw [this, h4]
    rfl
  have t1 : ((s[0].toNat : Int) == 1) = false := by rw [h4]; rfl
  have t2 : ((s[0].toNat : Int) == 2) = false := by rw [h4]; rfl
  have t3 : ((s[0].toNat : Int) == 3) = false := by rw [h4]; rfl
  have t4 : ((s[0].toNat : Int) == 4) = true := by rw [h4]; rfl
  clear h4
  have hdl : (s.data.toList.drop 1).length = s.size - 1 := by simp
  by_cases h9 : s.size < 9
  · have HV : Hid (takeV s.data.toList = none) := by
      show takeV _ = _
      rw [HL.out, takeV_four, if_pos (by omega)]
    clear hdl
    go_enter Try.func25, Try.ntmps25
    go_wp2
    exact bodyPost_ret (v := .tuple #[V 0 0 E0, .int .i64 0, .int .i64 10]) (by simp [results, Try.results25, go_sem]) rfl ⟨by rw [HV.out]; rfl, (Below.refl _ _).alloc (Nat.le_refl _) _⟩
  · have HV : Hid (takeV s.data.toList = some ((2, decI ((s.data.toList.drop 1).take 8), E0), (s.data.toList.drop 1).drop 8)) := by
      show takeV _ = _
      rw [HL.out, takeV_four, if_neg (by simp; omega)]
      simp
    clear hdl
    go_enter Try.func25, Try.ntmps25
    go_wp2
    go_loopw [5, 6] (fun c i wr => ∃ k B : Nat, k ≤ 8 ∧ i = .int .i64 (k + 1 : Nat) ∧ c = .int .u64 B ∧ B = beN ((s.data.toList.drop 1).take k) ∧ wr = w.alloc (.cells #[.int .i64 0, .int .i64 0, .string E0] 33)) (fun _ i _ => 9 - (intOf i).toNat)
    case atStart => exact ⟨0, 0, by omega, rfl, rfl, rfl, rfl⟩
    case round =>
      obtain ⟨k, B, hk, rfl, rfl, hB, rfl⟩ := hrel
      have HB : Hid (B = beN ((s.data.toList.drop 1).take k)) := hB
      clear hB
      by_cases hlt : k < 8
      · have hks : k + 1 < s.size := by omega
        have hBl : B < 72057594037927936 := by
          rw [HB.out]
          refine Nat.lt_of_lt_of_le (beN_lt _) (Nat.le_trans (Nat.pow_le_pow_right (by decide) (show ((s.data.toList.drop 1).take k).length ≤ 7 by simp; omega)) (by decide))
        have ho := or256 s[k + 1] hBl
        have HP : Hid ((s.data.toList.drop 1).take (k + 1) = (s.data.toList.drop 1).take k ++ [s[k + 1]]) := by
          show (s.data.toList.drop 1).take (k + 1) = _
          have hx : s.data.toList[k + 1]? = some s[k + 1] := by
            have := congrArg List.head? (drop_succ s (k + 1) hks)
            rwa [List.head?_drop, List.head?_cons] at this
          rw [List.take_add_one, List.getElem?_drop, Nat.add_comm 1 k, hx]
          rfl
        go_wp2
        go_roundw
        case rel => exact ⟨k + 1, B * 256 + s[k + 1].toNat, by omega, by go_num, by go_num, by rw [HP.out, beN_snoc, HB.out], by first | rfl | trivial⟩
        case measure => simp [intOf]; omega
      · have hk8 : k = 8 := by omega
        subst hk8
        have hBl : B < 18446744073709551616 := by
          rw [HB.out]
          refine Nat.lt_of_lt_of_le (beN_lt _) (Nat.le_trans (Nat.pow_le_pow_right (by decide) (show ((s.data.toList.drop 1).take 8).length ≤ 8 by simp; omega)) (by decide))
        have hf := minus_u64 hBl
        have HI : Hid (decI ((s.data.toList.drop 1).take 8) = (B : Int) - 9223372036854775808) := by show decI _ = _; rw [HB.out]; rfl
        clear hBl
        go_wp2_with (go_at_call 18; refine (refInt_any _ _).mono ?_; rintro e w1 ⟨rfl, hb1⟩; have hq := bbelow hb1)
        exact bodyPost_ret (v := .tuple #[V 2 ((B : Int) - 9223372036854775808) E0, .int .i64 9, .int .i64 0]) (by simp [results, Try.results25, go_sem, hq]) rfl ⟨by
          rw [HV.out]
          have h1 : (s.size - ((s.data.toList.drop 1).drop 8).length : Nat) = 9 := by simp; omega
          simp only [nextRes, h1, HI.out]
          rfl, bset3 (bnew hb1) (Nat.le_refl _) _ _ _⟩

end Go.Proofs.Ythbmcfbchomckaa
