/- Contracts of the program's turnBelow and goesRound. -/
import Derived.Test.YtobbomdknahicaaLatEdge
namespace Go.Proofs.Ytobbomdknahicaa
open Go.RowKit Go.Sort

set_option maxRecDepth 100000 in
set_option maxHeartbeats 4000000 in
theorem turnBelow_any (w : World) (q n cap : Nat) (ao : Option Addr) (pv : Value) (A : Nat → Nat) (J M : Nat → Nat → Int) (bt tp : Int)
    (hq : LatW w q (.slice ao n cap) pv A (fun _ => 0) J M bt tp) (hn : n ≤ 16) (hA : ∀ x y, (A x).testBit y = true → x < n ∧ y < n) (hA' : ∀ x, A x < 65536) :
    Calls Try.prog 34 #[.pointer (some ⟨q, 0, none⟩)] w fun e w' => e = .returned (.tuple #[]) ∧ w.grownBy w' (some q) ∧
      ∃ B, LatW w' q (.slice ao n cap) pv A B J M bt tp ∧ (∀ y x, (B y).testBit x = (A x).testBit y) ∧ ∀ y, B y < 65536 := by
  have c0 := hq.names
  go_enter Try.func34, Try.ntmps34
  go_wp2_with fail
  go_loopw [9] (fun i wr => ∃ (k : Nat) (B : Nat → Nat), k ≤ n ∧ i = .int .i64 k ∧ w.grownBy wr (some q) ∧ LatW wr q (.slice ao n cap) pv A B J M bt tp ∧ TurnP A B k 0) (fun i _ => n - (intOf i).toNat)
  case atStart => exact ⟨0, _, Nat.zero_le _, rfl, grown_refl _ _, hq, TurnP.start A⟩
  case round =>
    clear hq c0
    obtain ⟨k, B, hkl, rfl, hgr, hqr, htp⟩ := hrel
    by_cases hk : k < n
    · have i0 : (0 : Int) ≤ (k : Int) := by omega
      have i1 : (k : Int) < 16 := by omega
      have c1 := hqr.names
      obtain ⟨wx, hwx⟩ : ∃ x, x = wr := ⟨_, rfl⟩
      rw [← hwx] at hgr hqr c1 ⊢
      clear hwx
      go_wp2_with fail
      go_loopw [17] (fun i wr => ∃ (j : Nat) (B : Nat → Nat), j ≤ n ∧ i = .int .i64 j ∧ w.grownBy wr (some q) ∧ LatW wr q (.slice ao n cap) pv A B J M bt tp ∧ TurnP A B k j) (fun i _ => n - (intOf i).toNat)
      case atStart => exact ⟨0, _, Nat.zero_le _, rfl, hgr, hqr, htp⟩
      case round =>
        clear hgr hqr htp c1 wx
        obtain ⟨j, B, hjl, rfl, hgr, hqr, htp⟩ := hrel
        by_cases hj : j < n
        · have j0 : (0 : Int) ≤ (j : Int) := by omega
          have j1 : (j : Int) < 16 := by omega
          have ca := hqr.above (a := k) (by omega)
          have hh := has_any wr (A k) j (hA' k) (by omega)
          cases hb : (A k).testBit j
          · rw [hb] at hh
            have hnew := htp.same hb
            go_wp2_with fail
            refine hh.mono ?_
            rintro e w1 ⟨rfl, b1⟩
            go_wp2_with fail
            go_roundw
            case rel => exact ⟨j + 1, B, by omega, by go_num, grown_below hgr b1, hqr.keep b1, hnew⟩
            case measure => simp [intOf]; omega
          · rw [hb] at hh
            have hnew := htp.more hb
            have hlow := htp.lt hA hn j
            go_wp2_with fail
            refine hh.mono ?_
            rintro e w1 ⟨rfl, b1⟩
            replace hqr := hqr.keep b1
            replace hgr := grown_below hgr b1
            clear b1 ca
            have cb := hqr.below (a := j) (by omega)
            have fb := hqr.frozen (18 + j)
            have hsp := shl_pow (k := k) (by omega)
            have hor := or_pow (a := B j) (k := k) hlow (by omega)
            go_wp2_with fail
            go_region
            go_wp2_with fail
            go_roundw
            case rel => exact ⟨j + 1, _, by omega, by go_num, grown_drew (grown_trans hgr (grown_set _ _ _ _)), (hqr.setBelow (k := j) (by omega) (B j ||| 2 ^ k)).drew, hnew⟩
            case measure => simp [intOf]; omega
        · have hjn : j = n := by omega
          subst hjn
          have hnew := htp.row hA
          go_wp2_with fail
          go_roundw
          case rel => exact ⟨k + 1, B, by omega, by go_num, hgr, hqr, hnew⟩
          case measure => simp [intOf]; omega
    · have hkn : k = n := by omega
      subst hkn
      go_wp2_with fail
      go_end0
      exact ⟨rfl, hgr, B, hqr, htp.all hA, htp.lt hA hn⟩

theorem ne_pow {x k : Nat} : ((x : Int) != (2 : Int) ^ k) = (x != 2 ^ k) := by
  rw [← cast_pow]
  generalize 2 ^ k = m
  rw [Bool.eq_iff_iff, bne_iff_ne, bne_iff_ne]
  omega

set_option maxRecDepth 100000 in
set_option maxHeartbeats 4000000 in
theorem goesRound_any (w : World) (q n cap : Nat) (ao : Option Addr) (pv : Value) (A B : Nat → Nat) (J M : Nat → Nat → Int) (bt tp : Int)
    (hq : LatW w q (.slice ao n cap) pv A B J M bt tp) (hn : n ≤ 16) (hA : ∀ x, A x < 65536) (hB : ∀ x, B x < 65536) :
    Calls Try.prog 35 #[.pointer (some ⟨q, 0, none⟩)] w fun e w' => e = .returned (.bool (roundB n A B)) ∧ Below w.heap.size w w' := by
  have c0 := hq.names
  go_enter Try.func35, Try.ntmps35
  go_wp2_with fail
  go_loopw [9] (fun i wr => ∃ k : Nat, k ≤ n ∧ i = .int .i64 k ∧ Below w.heap.size w wr ∧ ∀ a, a < k → (A a &&& B a) = 2 ^ a) (fun i _ => n - (intOf i).toNat)
  case atStart => exact ⟨0, Nat.zero_le _, rfl, Below.refl _ _, fun a ha => absurd ha (by omega)⟩
  case round =>
    clear c0
    obtain ⟨k, hkl, rfl, hbel, hno⟩ := hrel
    have HN : Hid (∀ a, a < k → (A a &&& B a) = 2 ^ a) := hno
    clear hno
    by_cases hk : k < n
    · have i0 : (0 : Int) ≤ (k : Int) := by omega
      have i1 : (k : Int) < 16 := by omega
      have hqr := hq.keep hbel
      have ca := hqr.above (a := k) (by omega)
      have cb := hqr.below (a := k) (by omega)
      have hsp := shl_pow (k := k) (by omega)
      have hand := u32_and_nat (A k) (B k) (by have := hA k; omega) (by have := hB k; omega)
      have hne := ne_pow (x := A k &&& B k) (k := k)
      by_cases he : (A k &&& B k) = 2 ^ k
      · have hf : ((A k &&& B k) != 2 ^ k) = false := by rw [he]; simp
        rw [hf] at hne
        have HX : Hid (∀ a, a < k + 1 → (A a &&& B a) = 2 ^ a) := fun a ha => by
          by_cases e : a < k
          · exact HN.out a e
          · have : a = k := by omega
            subst this; exact he
        clear he hf
        go_wp2_with fail
        go_region
        go_wp2_with fail
        go_roundw
        case rel => exact ⟨k + 1, by omega, by go_num, hbel.drew, HX.out⟩
        case measure => simp [intOf]; omega
      · have hf : ((A k &&& B k) != 2 ^ k) = true := by simp [he]
        rw [hf] at hne
        have HX : Hid (roundB n A B = true) := roundB_true hk he
        clear he hf
        go_wp2_with fail
        go_region
        go_wp2_with fail
        go_ret
        exact ⟨ret_bool HX.out.symm, hbel.drew⟩
    · have hkn : k = n := by omega
      subst hkn
      have HX : Hid (roundB k A B = false) := roundB_false HN.out
      go_wp2_with fail
      go_ret
      exact ⟨ret_bool HX.out.symm, hbel⟩

end Go.Proofs.Ytobbomdknahicaa
