/- The walk of ReportBack. -/
import Derived.Test.YtcnbbmgclphfdaaDoorRpAlive
import Derived.Test.YtcnbbmgclphfdaaDoorRpHex
import Derived.Test.YtcnbbmgclphfdaaDoorFew
namespace Go.Proofs.YtcnbbmgclphfdaaDoor
open Go.RowKit Go.Sort

theorem sameB_self (l : List Ent) : sameB l l = true := by
  induction l with
  | nil => rfl
  | cons e r ih => simp [sameB, sameV, veq, ih]

theorem few23_any (w : World) (v : Value) (l : List Ent) (hl : Lies w v l) (hm : l.length ≤ maxLen) :
    Calls Tryd.prog 21 #[v] w fun e w' => e = .returned (.bool (fewB l)) ∧ Below w.heap.size w w' := by
  have k := few_any w v l hl hm
  go_enter Tryd.func21, Tryd.ntmps21
  go_wp2_with fail
  refine k.mono ?_
  rintro e w1 ⟨rfl, hw⟩
  subst hw
  go_wp2_with fail
  go_ret
  exact ⟨rfl, Below.refl _ _⟩

set_option maxHeartbeats 2000000 in
set_option maxRecDepth 100000 in
theorem backW (w : World) (hG : Glob w) (v : Value) (l : List Ent) (hl : Lies w v l) (hm : l.length ≤ maxLen) (hin : ∀ e ∈ l, inR e.1 ∧ inR e.2.1) :
    Calls Tryd.prog 5 #[v] w fun e w' => e = .returned (.bool true) ∧ Below w.heap.size w w' := by
  have kf := few23_any w v l hl hm
  obtain ⟨ao, cap, rfl, hc⟩ := hl
  have hal : Hid (∀ w1, Below w.heap.size w w1 → Calls Tryd.prog 7 #[] w1 fun e w' => e = .returned (.bool true) ∧ Below w1.heap.size w1 w') := fun w1 b1 => alive23_any w1 (hG.keep b1)
  cases hfew : fewB l with
  | false =>
    rw [hfew] at kf
    go_enter Tryd.func5, Tryd.ntmps5
    go_wp2_with fail
    refine kf.mono ?_
    rintro e w1 ⟨rfl, b1⟩
    go_wp2_with fail
    refine (hal.out w1 b1).mono ?_
    rintro e w2 ⟨rfl, b2⟩
    go_wp2_with fail
    go_ret
    exact ⟨rfl, btrans b1 b2⟩
  | true =>
    rw [hfew] at kf
    obtain ⟨hfair, h60⟩ := fair_of_few hfew hin
    by_cases h40 : 40 < l.length
    · go_enter Tryd.func5, Tryd.ntmps5
      go_wp2_with fail
      refine kf.mono ?_
      rintro e w1 ⟨rfl, b1⟩
      go_wp2_with fail
      refine (hal.out w1 b1).mono ?_
      rintro e w2 ⟨rfl, b2⟩
      go_wp2_with fail
      go_ret
      exact ⟨rfl, btrans b1 b2⟩
    have hlies : Hid (Lies w (.slice ao l.length cap) l) := ⟨ao, cap, rfl, hc⟩
    clear hfew hin hm
    go_enter Tryd.func5, Tryd.ntmps5
    go_wp2_with fail
    refine kf.mono ?_
    rintro e w1 ⟨rfl, b1⟩
    clear kf
    go_wp2_with fail
    go_loopw [18] (fun i wr => ∃ j : Nat, j ≤ l.length ∧ i = .int .i64 j ∧ (∀ k (hk : k < l.length), k < j → RightE l[k]) ∧ Below w.heap.size w wr) (fun i _ => l.length - (intOf i).toNat)
    case atStart => exact ⟨0, Nat.zero_le _, rfl, fun k _ hk => absurd hk (Nat.not_lt_zero _), b1⟩
    case round =>
      clear b1
      obtain ⟨j, hj, rfl, hright, hbel⟩ := hrel
      have HR : Hid (∀ k (hk : k < l.length), k < j → RightE l[k]) := hright
      clear hright
      by_cases h : j < l.length
      · obtain ⟨b, off, rfl, h1, h2, h3⟩ := hc j h
        replace h1 := cell_keep h1 hbel
        replace h2 := cell_keep h2 hbel
        replace h3 := cell_keep h3 hbel
        have HE : Hid (∀ (hx : RightE l[j]), ∀ k (hk : k < l.length), k < j + 1 → RightE l[k]) := by
          intro hx k hk hkj
          by_cases hke : k = j
          · subst hke; exact hx
          · exact HR.out k hk (by omega)
        generalize l[j] = E at *
        obtain ⟨t, n, s⟩ := E
        dsimp only at h1 h2 h3
        have kr := refRight_any t n s (wr.alloc (.cells #[.int .i64 t, .int .i64 n, .string s] 28))
        clear hc
        by_cases hre : rightE t n s = 0
        · rw [hre] at kr
          go_wp2_with fail
          refine kr.mono ?_
          rintro e w2 ⟨rfl, b2⟩
          replace b2 := btrans hbel (bnew b2)
          go_wp2_with fail
          go_roundw
          case rel => exact ⟨j + 1, by omega, by go_num, HE.out hre, b2⟩
          case measure => simp [intOf]; omega
        · have hreb : (rightE t n s != 0) = true := by simpa using hre
          generalize rightE t n s = rr at *
          go_wp2_with fail
          refine kr.mono ?_
          rintro e w2 ⟨rfl, b2⟩
          replace b2 := btrans hbel (bnew b2)
          go_wp2_with fail
          refine (hal.out w2 b2).mono ?_
          rintro e w3 ⟨rfl, b3⟩
          go_wp2_with fail
          go_ret
          exact ⟨rfl, btrans b2 b3⟩
      · have hjl : j = l.length := by omega
        subst hjl
        have hright : ∀ e ∈ l, RightE e := by
          intro e he
          obtain ⟨k, hk, rfl⟩ := List.getElem_of_mem he
          exact HR.out k hk hk
        have hl2 := hlies.out.keep hbel
        have hG2 := hG.keep hbel
        have kw := row_any wr hG2 _ l hl2 hfair (by omega)
        clear hc
        go_wp2_with fail
        refine kw.mono ?_
        rintro e w2 ⟨rfl, b2⟩
        have kd := read_any w2 (hG2.keep b2) l hright hfair (by omega) (fun e _ c _ hx => hex_all c hx)
        replace hl2 := hl2.keep b2
        replace hbel := btrans hbel b2
        clear kw b2
        go_wp2_with fail
        refine kd.mono ?_
        rintro e w3 ⟨u, rfl, ho, b3⟩
        replace hl2 := hl2.keep b3
        replace hbel := btrans hbel b3
        have ks := same_any w3 u _ l l ho.lies hl2 (by omega)
        rw [sameB_self] at ks
        clear kd b3
        go_wp2_with fail
        refine ks.mono ?_
        rintro e w4 ⟨rfl, b4⟩
        replace hbel := btrans hbel b4
        clear ks b4
        go_wp2_with fail
        refine (hal.out w4 hbel).mono ?_
        rintro e w5 ⟨rfl, b5⟩
        go_wp2_with fail
        go_ret
        exact ⟨rfl, btrans hbel b5⟩

theorem back_walk (v : Value) (l : List Ent) (w : World) (hl : Lies w v l) (hm : l.length ≤ maxLen) (hin : ∀ e ∈ l, inR e.1 ∧ inR e.2.1) (hG : Glob w) :
    Calls Tryd.prog 5 #[v] w fun e w' => e = .returned (.bool true) ∧ Below w.heap.size w w' := backW w hG v l hl hm hin

end Go.Proofs.YtcnbbmgclphfdaaDoor
