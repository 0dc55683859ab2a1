/- Contracts of the document's Meet. -/
import Derived.Test.YtobbomdknahicaaRefJoin
namespace Go.Proofs.Ytobbomdknahicaa
open Go.RowKit Go.Sort

set_option maxHeartbeats 4000000 in
theorem refMeet_any (w : World) (p : Value) (L : List ByteArray) (R : Nat → Nat → Bool) (hl : RLat w p L L.length R) (hL : L.length ≤ 1000) (a b : Int) :
    Calls Try.prog 26 #[p, .int .i64 a, .int .i64 b] w fun e w' => e = .returned (.int .i64 (meetI (leR L.length R) L.length a b)) ∧ Below w.heap.size w w' := by
  obtain ⟨le, hle⟩ : ∃ le, le = flipI (leR L.length R) := ⟨_, rfl⟩
  have hq : ∀ (x y : Int) (w' : World), Below w.heap.size w w' → Calls Try.prog 22 #[p, .int .i64 y, .int .i64 x] w' fun e w'' => e = .returned (.bool (le x y)) ∧ Below w'.heap.size w' w'' := by
    subst hle
    exact fun x y w' g => refLeq_any w' p L R (hl.keep g) y x
  have HJ : Hid (meetI (leR L.length R) L.length a b = firstI L.length fun c => leastB le L.length a b (c : Int)) := by subst hle; rfl
  clear hle
  obtain ⟨q, ns, bs, rows, rfl, h1, _, h3, _⟩ := hl
  obtain ⟨ao, cap, rfl, _, hc⟩ := h3
  clear hc
  obtain ⟨n, hn⟩ : ∃ n, L.length = n := ⟨_, rfl⟩
  rw [HJ.out, hn]
  rw [hn] at h1 hL
  clear HJ hn
  go_enter Try.func26, Try.ntmps26
  go_wp2
  go_loopw [7] (fun i wr => ∃ k : Nat, k ≤ n ∧ i = .int .i64 k ∧ Below w.heap.size w wr ∧ ∀ c, c < k → leastB le n a b ((c : Nat) : Int) = false) (fun i _ => n - (intOf i).toNat)
  case atStart => exact ⟨0, Nat.zero_le _, rfl, Below.refl _ _, fun c hc => absurd hc (by omega)⟩
  case round =>
    obtain ⟨k, hkl, rfl, hbel, hno⟩ := hrel
    have HN : Hid (∀ c, c < k → leastB le n a b ((c : Nat) : Int) = false) := hno
    clear hno
    have g1 := cell_keep h1 hbel
    by_cases hk : k < n
    · cases hac : le a (k : Int)
      · have HF : Hid (leastB le n a b (k : Int) = false) := by show leastB _ _ _ _ _ = _; simp [leastB, hac]
        go_wp2_with fail
        refine (hq a k _ hbel).mono ?_
        rintro e w1 ⟨rfl, b1⟩
        rw [hac]
        go_wp2_with fail
        go_roundw
        case rel => exact ⟨k + 1, by omega, by go_num, btrans hbel b1, no_more (f := fun c : Nat => leastB le n a b (c : Int)) HN.out HF.out⟩
        case measure => simp [intOf]; omega
      · cases hbc : le b (k : Int)
        · have HF : Hid (leastB le n a b (k : Int) = false) := by show leastB _ _ _ _ _ = _; simp [leastB, hbc]
          go_wp2_with fail
          refine (hq a k _ hbel).mono ?_
          rintro e w1 ⟨rfl, b1⟩
          replace b1 := btrans hbel b1
          rw [hac]
          go_wp2_with fail
          refine (hq b k _ b1).mono ?_
          rintro e w2 ⟨rfl, b2⟩
          rw [hbc]
          go_wp2_with fail
          go_roundw
          case rel => exact ⟨k + 1, by omega, by go_num, btrans b1 b2, no_more (f := fun c : Nat => leastB le n a b (c : Int)) HN.out HF.out⟩
          case measure => simp [intOf]; omega
        · have HF : Hid (leastB le n a b (k : Int) = (List.range n).all fun d => !(le a (d : Int) && le b (d : Int) && !le (k : Int) (d : Int))) := by show leastB _ _ _ _ _ = _; simp [leastB, hac, hbc]
          go_wp2_with fail
          refine (hq a k _ hbel).mono ?_
          rintro e w1 ⟨rfl, b1⟩
          replace b1 := btrans hbel b1
          rw [hac]
          go_wp2_with fail
          refine (hq b k _ b1).mono ?_
          rintro e w2 ⟨rfl, b2⟩
          replace b2 := btrans b1 b2
          rw [hbc]
          clear hac hbc g1 b1
          go_wp2_with fail
          go_loopw [8, 9] (fun ok i wr => ∃ m : Nat, m ≤ n ∧ i = .int .i64 m ∧ ok = .bool ((List.range m).all fun d => !(le a (d : Int) && le b (d : Int) && !le (k : Int) (d : Int))) ∧ Below w.heap.size w wr) (fun _ i _ => n - (intOf i).toNat)
          case atStart => exact ⟨0, Nat.zero_le _, rfl, rfl, b2⟩
          case round =>
            obtain ⟨m, hml, rfl, rfl, hbe⟩ := hrel
            have g2 := cell_keep h1 hbe
            obtain ⟨ok, hok⟩ : ∃ ok, ok = ((List.range m).all fun d => !(le a (d : Int) && le b (d : Int) && !le (k : Int) (d : Int))) := ⟨_, rfl⟩
            rw [← hok]
            by_cases hm : m < n
            · have HS : Hid (((List.range (m + 1)).all fun d => !(le a (d : Int) && le b (d : Int) && !le (k : Int) (d : Int))) = (ok && !(le a (m : Int) && le b (m : Int) && !le (k : Int) (m : Int)))) := by
                show List.all _ _ = _
                rw [all_succ, ← hok]
              clear hok
              cases had : le a (m : Int)
              · have HT : Hid (((List.range (m + 1)).all fun d => !(le a (d : Int) && le b (d : Int) && !le (k : Int) (d : Int))) = ok) := by show List.all _ _ = _; rw [HS.out, had]; simp
                go_wp2_with fail
                refine (hq a m _ hbe).mono ?_
                rintro e w3 ⟨rfl, b3⟩
                rw [had]
                go_wp2_with fail
                go_roundw
                case rel => exact ⟨m + 1, by omega, by go_num, by rw [HT.out], btrans hbe b3⟩
                case measure => simp [intOf]; omega
              · cases hbd : le b (m : Int)
                · have HT : Hid (((List.range (m + 1)).all fun d => !(le a (d : Int) && le b (d : Int) && !le (k : Int) (d : Int))) = ok) := by show List.all _ _ = _; rw [HS.out, hbd]; simp
                  go_wp2_with fail
                  refine (hq a m _ hbe).mono ?_
                  rintro e w3 ⟨rfl, b3⟩
                  replace b3 := btrans hbe b3
                  rw [had]
                  go_wp2_with fail
                  refine (hq b m _ b3).mono ?_
                  rintro e w4 ⟨rfl, b4⟩
                  rw [hbd]
                  go_wp2_with fail
                  go_roundw
                  case rel => exact ⟨m + 1, by omega, by go_num, by rw [HT.out], btrans b3 b4⟩
                  case measure => simp [intOf]; omega
                · cases hcd : le (k : Int) (m : Int)
                  · have HT : Hid (((List.range (m + 1)).all fun d => !(le a (d : Int) && le b (d : Int) && !le (k : Int) (d : Int))) = false) := by show List.all _ _ = _; rw [HS.out, had, hbd, hcd]; simp
                    go_wp2_with fail
                    refine (hq a m _ hbe).mono ?_
                    rintro e w3 ⟨rfl, b3⟩
                    replace b3 := btrans hbe b3
                    rw [had]
                    go_wp2_with fail
                    refine (hq b m _ b3).mono ?_
                    rintro e w4 ⟨rfl, b4⟩
                    replace b4 := btrans b3 b4
                    rw [hbd]
                    go_wp2_with fail
                    refine (hq k m _ b4).mono ?_
                    rintro e w5 ⟨rfl, b5⟩
                    rw [hcd]
                    go_wp2_with fail
                    go_roundw
                    case rel => exact ⟨m + 1, by omega, by go_num, by rw [HT.out], btrans b4 b5⟩
                    case measure => simp [intOf]; omega
                  · have HT : Hid (((List.range (m + 1)).all fun d => !(le a (d : Int) && le b (d : Int) && !le (k : Int) (d : Int))) = ok) := by show List.all _ _ = _; rw [HS.out, hcd]; simp
                    go_wp2_with fail
                    refine (hq a m _ hbe).mono ?_
                    rintro e w3 ⟨rfl, b3⟩
                    replace b3 := btrans hbe b3
                    rw [had]
                    go_wp2_with fail
                    refine (hq b m _ b3).mono ?_
                    rintro e w4 ⟨rfl, b4⟩
                    replace b4 := btrans b3 b4
                    rw [hbd]
                    go_wp2_with fail
                    refine (hq k m _ b4).mono ?_
                    rintro e w5 ⟨rfl, b5⟩
                    rw [hcd]
                    go_wp2_with fail
                    go_roundw
                    case rel => exact ⟨m + 1, by omega, by go_num, by rw [HT.out], btrans b4 b5⟩
                    case measure => simp [intOf]; omega
            · have hmn : m = n := by omega
              subst hmn
              cases hokv : ok
              · have HF' : Hid (leastB le m a b (k : Int) = false) := by show leastB _ _ _ _ _ = _; rw [HF.out, ← hok, hokv]
                clear hok
                go_wp2_with fail
                go_roundw
                case rel => exact ⟨k + 1, by omega, by go_num, hbe, no_more (f := fun c : Nat => leastB le m a b (c : Int)) HN.out HF'.out⟩
                case measure => simp [intOf]; omega
              · have HF' : Hid (firstI m (fun c : Nat => leastB le m a b (c : Int)) = (k : Int)) := firstI_some hk (by rw [HF.out, ← hok, hokv]) HN.out
                clear hok
                go_wp2_with fail
                go_ret
                exact ⟨ret_int HF'.out.symm, hbe⟩
    · have HF' : Hid (firstI n (fun c : Nat => leastB le n a b (c : Int)) = -1) := firstI_none fun c hc => HN.out c (by omega)
      have hkn : k = n := by omega
      subst hkn
      go_wp2_with fail
      go_ret
      exact ⟨ret_int HF'.out.symm, hbel⟩

end Go.Proofs.Ytobbomdknahicaa
