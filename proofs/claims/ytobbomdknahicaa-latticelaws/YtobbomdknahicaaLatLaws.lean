/- The walk of LatticeLaws. -/
import Derived.Test.YtobbomdknahicaaAlive3
import Derived.Test.YtobbomdknahicaaFew3
import Derived.Test.YtobbomdknahicaaLatPure
namespace Go.Proofs.Ytobbomdknahicaa
open Go.RowKit Go.Sort

set_option maxRecDepth 100000 in
set_option maxHeartbeats 8000000 in
theorem latLaws_walk (v u : Value) (L : List ByteArray) (E : List (ByteArray × ByteArray)) (w : World) (hL : LiesS w v L) (hl : L.length ≤ maxLen) (hE : LiesP w u E) (hel : E.length ≤ maxLen) :
    Calls Try.prog 5 #[v, u] w fun e w' => e = .returned (.bool true) ∧ Below w.heap.size w w' := by
  have few := few_any w v u L E hL hE hl hel
  cases hf : fewB L E
  · rw [hf] at few
    clear hL hE hl hel hf
    go_enter Try.func5, Try.ntmps5
    go_wp2_with fail
    refine (few).mono ?_
    rintro e y1 ⟨rfl, c1⟩
    go_wp2_with fail
    refine (alive_any _).mono ?_
    rintro e y2 ⟨rfl, c2⟩
    replace c2 := btrans c1 c2
    go_wp2_with fail
    go_ret
    exact ⟨rfl, c2⟩
  · rw [hf] at few
    obtain ⟨l20, e80⟩ := few_len hf
    have n1 := fun wq (g : Below w.heap.size w wq) => new_any wq v u L E (hL.keep g) (hE.keep g) (by omega) (by omega) (few_s hf) (few_e hf)
    by_cases h0 : latErr L E = 0
    · have hlt := latErr_lat h0
      have H1 : Hid (∀ {a : Nat}, a < L.length → _) := fun {a} ha => lat_one hlt (a := a) ha
      have H2 : Hid (∀ {a b : Nat}, a < L.length → b < L.length → _) := fun {a b} ha hb => lat_two hlt (a := a) (b := b) ha hb
      have H3 : Hid (∀ {a b c : Nat}, a < L.length → b < L.length → c < L.length → _) := fun {a b c} ha hb hc => lat_three hlt (a := a) (b := b) (c := c) ha hb hc
      rw [h0] at n1
      clear hf h0 hlt
      obtain ⟨ao, cap, rfl, _, _⟩ := id hL
      go_enter Try.func5, Try.ntmps5
      go_wp2_with fail
      refine (few).mono ?_
      rintro e y1 ⟨rfl, c1⟩
      go_wp2_with fail
      refine (n1 _ c1).mono ?_
      rintro e z2 ⟨p1, rfl, b1, hlat, _⟩
      replace hlat := hlat (by trivial)
      obtain ⟨q1, rfl⟩ := hlat.ptr
      have d2 := btrans c1 b1
      have r0 : Below z2.heap.size z2 z2 := Below.refl _ _
      clear n1 b1
      have l1 := fun (x y : Int) wq (g : Below z2.heap.size z2 wq) => leq_any wq _ L E (hlat.keep g) x y
      have j1 := fun (x y : Int) wq (g : Below z2.heap.size z2 wq) => join_any wq _ L E (hlat.keep g) x y
      have m1 := fun (x y : Int) wq (g : Below z2.heap.size z2 wq) => meet_any wq _ L E (hlat.keep g) x y
      have b1 := fun wq (g : Below z2.heap.size z2 wq) => bottom_any wq _ L E (hlat.keep g)
      have t1 := fun wq (g : Below z2.heap.size z2 wq) => top_any wq _ L E (hlat.keep g)
      clear hlat hL hE hl hel few
      generalize joinI (leL L E) L.length = J at j1 H1 H2 H3
      generalize meetI (leL L E) L.length = M at m1 H1 H2 H3
      generalize botI (leL L E) L.length = bo at b1 H1
      generalize topI (leL L E) L.length = tq at t1 H1
      generalize leL L E = le at l1 H1 H2 H3
      generalize L.length = n at l20 H1 H2 H3
      go_wp2_with fail
      go_loopw [8] (fun i wr => ∃ k : Nat, k ≤ n ∧ i = .int .i64 k ∧ Below z2.heap.size z2 wr) (fun i _ => n - (intOf i).toNat)
      case atStart => exact ⟨0, Nat.zero_le _, rfl, r0⟩
      case round =>
        obtain ⟨a, hal, rfl, hba⟩ := hrel
        by_cases ha : a < n
        · obtain ⟨f1, f2, f3, f4⟩ := H1.out ha
          have K1 := j1 a a
          have K2 := m1 a a
          have K3 := l1 bo a
          have K4 := l1 a tq
          rw [f1] at K1
          rw [f2] at K2
          rw [f3] at K3
          rw [f4] at K4
          clear f1 f2 f3 f4
          go_wp2_with fail
          refine (K1 _ hba).mono ?_
          rintro e y11 ⟨rfl, c11⟩
          replace c11 := btrans hba c11
          go_wp2_with fail
          refine (K2 _ c11).mono ?_
          rintro e y12 ⟨rfl, c12⟩
          replace c12 := btrans c11 c12
          go_wp2_with fail
          refine (b1 _ c12).mono ?_
          rintro e y13 ⟨rfl, c13⟩
          replace c13 := btrans c12 c13
          go_wp2_with fail
          refine (K3 _ c13).mono ?_
          rintro e y14 ⟨rfl, c14⟩
          replace c14 := btrans c13 c14
          go_wp2_with fail
          refine (t1 _ c14).mono ?_
          rintro e y15 ⟨rfl, c15⟩
          replace c15 := btrans c14 c15
          go_wp2_with fail
          refine (K4 _ c15).mono ?_
          rintro e y16 ⟨rfl, c16⟩
          replace c16 := btrans c15 c16
          clear K1 K2 K3 K4
          go_wp2_with fail
          go_loopw [9] (fun i wr => ∃ k : Nat, k ≤ n ∧ i = .int .i64 k ∧ Below z2.heap.size z2 wr) (fun i _ => n - (intOf i).toNat)
          case atStart => exact ⟨0, Nat.zero_le _, rfl, c16⟩
          case round =>
            obtain ⟨b, hbl, rfl, hbb⟩ := hrel
            by_cases hb : b < n
            · obtain ⟨f1, f2, f3, f4, f5, f6⟩ := H2.out ha hb
              have K1 := j1 b a
              have K2 := m1 b a
              have K3 := l1 a b
              have K4 := l1 a b
              have K5 := j1 a (M a b)
              have K6 := m1 a (J a b)
              rw [f1] at K1
              rw [f2] at K2
              rw [f3] at K3
              rw [f4] at K4
              rw [f5] at K5
              rw [f6] at K6
              clear f1 f2 f3 f4 f5 f6
              go_wp2_with fail
              refine (j1 a b _ hbb).mono ?_
              rintro e y31 ⟨rfl, c31⟩
              replace c31 := btrans hbb c31
              go_wp2_with fail
              refine (m1 a b _ c31).mono ?_
              rintro e y32 ⟨rfl, c32⟩
              replace c32 := btrans c31 c32
              go_wp2_with fail
              refine (K1 _ c32).mono ?_
              rintro e y33 ⟨rfl, c33⟩
              replace c33 := btrans c32 c33
              go_wp2_with fail
              refine (K2 _ c33).mono ?_
              rintro e y34 ⟨rfl, c34⟩
              replace c34 := btrans c33 c34
              go_wp2_with fail
              refine (K3 _ c34).mono ?_
              rintro e y35 ⟨rfl, c35⟩
              replace c35 := btrans c34 c35
              go_wp2_with fail
              refine (K4 _ c35).mono ?_
              rintro e y36 ⟨rfl, c36⟩
              replace c36 := btrans c35 c36
              go_wp2_with fail
              refine (K5 _ c36).mono ?_
              rintro e y37 ⟨rfl, c37⟩
              replace c37 := btrans c36 c37
              go_wp2_with fail
              refine (K6 _ c37).mono ?_
              rintro e y38 ⟨rfl, c38⟩
              replace c38 := btrans c37 c38
              clear K1 K2 K3 K4 K5 K6
              go_wp2_with fail
              go_loopw [12] (fun i wr => ∃ k : Nat, k ≤ n ∧ i = .int .i64 k ∧ Below z2.heap.size z2 wr) (fun i _ => n - (intOf i).toNat)
              case atStart => exact ⟨0, Nat.zero_le _, rfl, c38⟩
              case round =>
                obtain ⟨c, hcl, rfl, hbc⟩ := hrel
                by_cases hc : c < n
                · obtain ⟨f1, f2, f3⟩ := H3.out ha hb hc
                  have K1 := j1 a (J b c)
                  have K2 := m1 a (M b c)
                  have K3 := l1 a c
                  have K4 := l1 (J a b) c
                  rw [f1] at K1
                  rw [f2] at K2
                  clear f1 f2
                  cases hac : le a c
                  · rw [hac] at K3
                    clear f3 hac
                    go_wp2_with fail
                    refine (j1 (J a b) c _ hbc).mono ?_
                    rintro e y61 ⟨rfl, c61⟩
                    replace c61 := btrans hbc c61
                    go_wp2_with fail
                    refine (j1 b c _ c61).mono ?_
                    rintro e y62 ⟨rfl, c62⟩
                    replace c62 := btrans c61 c62
                    go_wp2_with fail
                    refine (K1 _ c62).mono ?_
                    rintro e y63 ⟨rfl, c63⟩
                    replace c63 := btrans c62 c63
                    go_wp2_with fail
                    refine (m1 (M a b) c _ c63).mono ?_
                    rintro e y64 ⟨rfl, c64⟩
                    replace c64 := btrans c63 c64
                    go_wp2_with fail
                    refine (m1 b c _ c64).mono ?_
                    rintro e y65 ⟨rfl, c65⟩
                    replace c65 := btrans c64 c65
                    go_wp2_with fail
                    refine (K2 _ c65).mono ?_
                    rintro e y66 ⟨rfl, c66⟩
                    replace c66 := btrans c65 c66
                    go_wp2_with fail
                    refine (K3 _ c66).mono ?_
                    rintro e y67 ⟨rfl, c67⟩
                    replace c67 := btrans c66 c67
                    go_wp2_with fail
                    go_roundw
                    case rel => exact ⟨c + 1, by omega, by go_num, c67⟩
                    case measure => simp [intOf]; omega
                  · rw [hac] at K3
                    rw [f3 hac] at K4
                    clear f3 hac
                    go_wp2_with fail
                    refine (j1 (J a b) c _ hbc).mono ?_
                    rintro e y61 ⟨rfl, c61⟩
                    replace c61 := btrans hbc c61
                    go_wp2_with fail
                    refine (j1 b c _ c61).mono ?_
                    rintro e y62 ⟨rfl, c62⟩
                    replace c62 := btrans c61 c62
                    go_wp2_with fail
                    refine (K1 _ c62).mono ?_
                    rintro e y63 ⟨rfl, c63⟩
                    replace c63 := btrans c62 c63
                    go_wp2_with fail
                    refine (m1 (M a b) c _ c63).mono ?_
                    rintro e y64 ⟨rfl, c64⟩
                    replace c64 := btrans c63 c64
                    go_wp2_with fail
                    refine (m1 b c _ c64).mono ?_
                    rintro e y65 ⟨rfl, c65⟩
                    replace c65 := btrans c64 c65
                    go_wp2_with fail
                    refine (K2 _ c65).mono ?_
                    rintro e y66 ⟨rfl, c66⟩
                    replace c66 := btrans c65 c66
                    go_wp2_with fail
                    refine (K3 _ c66).mono ?_
                    rintro e y67 ⟨rfl, c67⟩
                    replace c67 := btrans c66 c67
                    go_wp2_with fail
                    refine (l1 b c _ c67).mono ?_
                    rintro e y68 ⟨rfl, c68⟩
                    replace c68 := btrans c67 c68
                    go_wp2_with fail
                    refine (K4 _ c68).mono ?_
                    rintro e y69 ⟨rfl, c69⟩
                    replace c69 := btrans c68 c69
                    go_wp2_with fail
                    go_roundw
                    case rel => exact ⟨c + 1, by omega, by go_num, c69⟩
                    case measure => simp [intOf]; omega
                · have hcn : c = n := by omega
                  subst hcn
                  go_wp2_with fail
                  go_roundw
                  case rel => exact ⟨b + 1, by omega, by go_num, hbc⟩
                  case measure => simp [intOf]; omega
            · have hbn : b = n := by omega
              subst hbn
              go_wp2_with fail
              go_roundw
              case rel => exact ⟨a + 1, by omega, by go_num, hbb⟩
              case measure => simp [intOf]; omega
        · have han : a = n := by omega
          subst han
          go_wp2_with fail
          refine (alive_any _).mono ?_
          rintro e y201 ⟨rfl, c201⟩
          replace c201 := btrans hba c201
          go_wp2_with fail
          go_ret
          exact ⟨rfl, btrans d2 c201⟩
    · have n1' : ∀ wq, Below w.heap.size w wq → Calls Try.prog 11 #[v, u] wq fun e w' => e = Ending.returned (.tuple #[.pointer none, .int .i64 (latErr L E)]) ∧ Below wq.heap.size wq w' := fun wq g => (n1 wq g).mono fun e w' ⟨p, h1, h2, _, h3⟩ => by rw [h3 h0] at h1; exact ⟨h1, h2⟩
      have hb : (latErr L E != 0) = true := by simpa using h0
      clear n1 hf h0 hL hE hl hel
      generalize latErr L E = er at n1' hb
      go_enter Try.func5, Try.ntmps5
      go_wp2_with fail
      refine (few).mono ?_
      rintro e y1 ⟨rfl, c1⟩
      go_wp2_with fail
      refine (n1' _ c1).mono ?_
      rintro e y2 ⟨rfl, c2⟩
      replace c2 := btrans c1 c2
      go_wp2_with fail
      refine (alive_any _).mono ?_
      rintro e y3 ⟨rfl, c3⟩
      replace c3 := btrans c2 c3
      go_wp2_with fail
      go_ret
      exact ⟨rfl, c3⟩

end Go.Proofs.Ytobbomdknahicaa
