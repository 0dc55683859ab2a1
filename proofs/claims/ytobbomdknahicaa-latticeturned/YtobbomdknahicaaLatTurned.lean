/- The walk of LatticeTurned. -/
import Derived.Test.YtobbomdknahicaaAlive3
import Derived.Test.YtobbomdknahicaaFew3
import Derived.Test.YtobbomdknahicaaLatMore
import Derived.Test.YtobbomdknahicaaOwnP
namespace Go.Proofs.Ytobbomdknahicaa
open Go.RowKit Go.Sort

set_option maxRecDepth 100000 in
set_option maxHeartbeats 8000000 in
theorem latTurned_walk (v u : Value) (L : List ByteArray) (E : List (ByteArray × ByteArray)) (w : World) (hL : LiesS w v L) (hl : L.length ≤ maxLen) (hE : LiesP w u E) (hel : E.length ≤ maxLen) :
    Calls Try.prog 8 #[v, u] w fun e w' => e = .returned (.bool true) ∧ Below w.heap.size w w' := by
  have few := few_any w v u L E hL hE hl hel
  cases hf : fewB L E
  · rw [hf] at few
    clear hL hE hl hel hf
    go_enter Try.func8, Try.ntmps8
    go_wp2_with fail
    refine (few).mono ?_
    rintro e y1 ⟨rfl, c1⟩
    go_wp2_with fail
    refine (alive_any _).mono ?_
    rintro e y2 ⟨rfl, c2⟩
    replace c2 := btrans c1 c2
    go_wp2_with fail
    go_ret
    exact ⟨rfl, c2⟩
  · rw [hf] at few
    obtain ⟨l20, e80⟩ := few_len hf
    have n1 := fun wq (g : Below w.heap.size w wq) => new_any wq v u L E (hL.keep g) (hE.keep g) (by omega) (by omega) (few_s hf) (few_e hf)
    have n2 := fun wq x (g : Below w.heap.size w wq) (hx : LiesP wq x (backE E)) => new_any wq v x L (backE E) (hL.keep g) hx (by omega) (by simp [backE]; omega) (few_s hf) (fun e he => by obtain ⟨y, hy, rfl⟩ := List.mem_map.1 he; exact ⟨(few_e hf y hy).2, (few_e hf y hy).1⟩)
    simp only [latErr_back] at n2
    obtain ⟨ao, cap, rfl, _, _⟩ := id hL
    obtain ⟨bo, cbp, rfl, _, hd⟩ := id hE
    have HB : Hid (backE E = (E.take E.length).map fun e => (e.2, e.1)) := by show backE E = _; rw [List.take_length]; rfl
    have HLE : Hid (latErr L E = 0 → leL L (backE E) = flipI (leL L E)) := fun h => leL_back (latErr_zero h).2.2.2.1
    clear hf
    go_enter Try.func8, Try.ntmps8
    go_wp2_with fail
    refine (few).mono ?_
    rintro e y1 ⟨rfl, c1⟩
    go_wp2_with fail
    go_loopw [5, 21] (fun x i wr => ∃ k : Nat, k ≤ E.length ∧ i = .int .i64 k ∧ OwnP wr w.heap.size x ((E.take k).map fun e => (e.2, e.1)) ∧ Below w.heap.size w wr) (fun _ i _ => E.length - (intOf i).toNat)
    case atStart => exact ⟨0, Nat.zero_le _, rfl, OwnP.nil _ _, c1⟩
    case round =>
      obtain ⟨k, hkl, rfl, ho, hbk⟩ := hrel
      have hszk := hbk.size
      obtain ⟨xa, xc, rfl⟩ := ho.shapeN (n := k) (by simp; omega)
      by_cases hk : k < E.length
      · obtain ⟨b, off, rfl, g1, g2⟩ := lieP_at hd hbk hk
        have HT : Hid ((E.take (k + 1)).map (fun e => (e.2, e.1)) = (E.take k).map (fun e => (e.2, e.1)) ++ [(E[k].2, E[k].1)]) := by show List.map _ _ = _; rw [List.take_succ_eq_append_getElem hk, List.map_append]; rfl
        have i0 : (0 : Int) ≤ (k : Int) := by omega
        have i1 : (k : Int) < (E.length : Int) := by omega
        clear hd hE hL n1 n2 few HB HLE
        generalize E[k] = ed at g1 g2 HT
        obtain ⟨lo, hi⟩ := ed
        simp only at g1 g2 HT
        have hlk : ((E.take k).map fun e => (e.2, e.1)).length + 1 ≤ 1000000000 := by simp; omega
        go_wp2_with (at_builtin; refine wpList_pushP (.tmp 25) (.tmp 31) rfl rfl rfl rfl (by simp) (ho.alloc _) (by simp; omega) hlk ?_; intro v3 w3 ho3 hb3)
        go_roundw
        case rel => exact ⟨k + 1, by omega, by go_num, by rw [HT.out]; exact ho3, hbk.trans (((Below.refl _ _).alloc hszk _).trans hb3)⟩
        case measure => simp [intOf]; omega
      · have hkn : k = E.length := by omega
        subst hkn
        rw [← HB.out] at ho
        clear HB hd
        by_cases h0 : latErr L E = 0
        · rw [h0] at n1 n2
          have hfl := HLE.out h0
          clear h0 HLE
          go_wp2_with fail
          refine (n1 _ hbk).mono ?_
          rintro e z1 ⟨p1, rfl, b1, hlat, _⟩
          replace hlat := hlat (by trivial)
          obtain ⟨q1, rfl⟩ := hlat.ptr
          have d1 := btrans hbk b1
          replace ho := ho.keep b1
          go_wp2_with fail
          refine (n2 _ _ d1 ho.lies).mono ?_
          rintro e z2 ⟨p2, rfl, b2, mlat, _⟩
          replace mlat := mlat (by trivial)
          obtain ⟨q2, rfl⟩ := mlat.ptr
          replace hlat := hlat.keep b2
          have d2 := btrans d1 b2
          have r0 : Below z2.heap.size z2 z2 := Below.refl _ _
          have l1 := fun (x y : Int) wq (g : Below z2.heap.size z2 wq) => leq_any wq _ L E (hlat.keep g) x y
          have l2 := fun (x y : Int) wq (g : Below z2.heap.size z2 wq) => leq_any wq _ L (backE E) (mlat.keep g) x y
          have j1 := fun (x y : Int) wq (g : Below z2.heap.size z2 wq) => join_any wq _ L E (hlat.keep g) x y
          have j2 := fun (x y : Int) wq (g : Below z2.heap.size z2 wq) => join_any wq _ L (backE E) (mlat.keep g) x y
          have m1 := fun (x y : Int) wq (g : Below z2.heap.size z2 wq) => meet_any wq _ L E (hlat.keep g) x y
          have m2 := fun (x y : Int) wq (g : Below z2.heap.size z2 wq) => meet_any wq _ L (backE E) (mlat.keep g) x y
          have bo1 := fun wq (g : Below z2.heap.size z2 wq) => bottom_any wq _ L E (hlat.keep g)
          have bo2 := fun wq (g : Below z2.heap.size z2 wq) => bottom_any wq _ L (backE E) (mlat.keep g)
          have to1 := fun wq (g : Below z2.heap.size z2 wq) => top_any wq _ L E (hlat.keep g)
          have to2 := fun wq (g : Below z2.heap.size z2 wq) => top_any wq _ L (backE E) (mlat.keep g)
          simp only [hfl] at l2 j2 m2 bo2 to2
          have e1 : joinI (flipI (leL L E)) L.length = meetI (leL L E) L.length := rfl
          have e2 : meetI (flipI (leL L E)) L.length = joinI (leL L E) L.length := rfl
          have e3 : botI (flipI (leL L E)) L.length = topI (leL L E) L.length := rfl
          have e4 : topI (flipI (leL L E)) L.length = botI (leL L E) L.length := rfl
          have e5 : ∀ x y, flipI (leL L E) x y = leL L E y x := fun _ _ => rfl
          simp only [e1] at j2
          simp only [e2] at m2
          rw [e3] at bo2
          rw [e4] at to2
          simp only [e5] at l2
          clear e1 e2 e3 e4 e5 hfl hlat mlat n1 n2 few hL hE ho b1 b2 d1
          generalize joinI (leL L E) L.length = J at j1 m2
          generalize meetI (leL L E) L.length = M at m1 j2
          generalize botI (leL L E) L.length = bo at bo1 to2
          generalize topI (leL L E) L.length = tq at bo2 to1
          generalize leL L E = le at l1 l2
          generalize L.length = n at l20 ⊢
          go_wp2_with fail
          go_loopw [61] (fun i wr => ∃ k : Nat, k ≤ n ∧ i = .int .i64 k ∧ Below z2.heap.size z2 wr) (fun i _ => n - (intOf i).toNat)
          case atStart => exact ⟨0, Nat.zero_le _, rfl, r0⟩
          case round =>
            obtain ⟨a, hal, rfl, hba⟩ := hrel
            by_cases ha : a < n
            · go_wp2_with fail
              go_loopw [66] (fun i wr => ∃ k : Nat, k ≤ n ∧ i = .int .i64 k ∧ Below z2.heap.size z2 wr) (fun i _ => n - (intOf i).toNat)
              case atStart => exact ⟨0, Nat.zero_le _, rfl, hba⟩
              case round =>
                obtain ⟨b, hbl, rfl, hbb⟩ := hrel
                by_cases hb : b < n
                · skip
                  go_wp2_with fail
                  refine (l1 a b _ hbb).mono ?_
                  rintro e y101 ⟨rfl, c101⟩
                  replace c101 := btrans hbb c101
                  go_wp2_with fail
                  refine (l2 b a _ c101).mono ?_
                  rintro e y102 ⟨rfl, c102⟩
                  replace c102 := btrans c101 c102
                  go_wp2_with fail
                  refine (j1 a b _ c102).mono ?_
                  rintro e y103 ⟨rfl, c103⟩
                  replace c103 := btrans c102 c103
                  go_wp2_with fail
                  refine (m2 a b _ c103).mono ?_
                  rintro e y104 ⟨rfl, c104⟩
                  replace c104 := btrans c103 c104
                  go_wp2_with fail
                  refine (m1 a b _ c104).mono ?_
                  rintro e y105 ⟨rfl, c105⟩
                  replace c105 := btrans c104 c105
                  go_wp2_with fail
                  refine (j2 a b _ c105).mono ?_
                  rintro e y106 ⟨rfl, c106⟩
                  replace c106 := btrans c105 c106
                  go_wp2_with fail
                  go_roundw
                  case rel => exact ⟨b + 1, by omega, by go_num, c106⟩
                  case measure => simp [intOf]; omega
                · have hbn : b = n := by omega
                  subst hbn
                  go_wp2_with fail
                  go_roundw
                  case rel => exact ⟨a + 1, by omega, by go_num, hbb⟩
                  case measure => simp [intOf]; omega
            · have han : a = n := by omega
              subst han
              go_wp2_with fail
              refine (bo1 _ hba).mono ?_
              rintro e y201 ⟨rfl, c201⟩
              replace c201 := btrans hba c201
              go_wp2_with fail
              refine (to2 _ c201).mono ?_
              rintro e y202 ⟨rfl, c202⟩
              replace c202 := btrans c201 c202
              go_wp2_with fail
              refine (to1 _ c202).mono ?_
              rintro e y203 ⟨rfl, c203⟩
              replace c203 := btrans c202 c203
              go_wp2_with fail
              refine (bo2 _ c203).mono ?_
              rintro e y204 ⟨rfl, c204⟩
              replace c204 := btrans c203 c204
              go_wp2_with fail
              refine (alive_any _).mono ?_
              rintro e y205 ⟨rfl, c205⟩
              replace c205 := btrans c204 c205
              go_wp2_with fail
              go_ret
              exact ⟨rfl, btrans d2 c205⟩
        · have n1' : ∀ wq, Below w.heap.size w wq → Calls Try.prog 11 #[.slice ao L.length cap, .slice bo E.length cbp] wq fun e w' => e = Ending.returned (.tuple #[.pointer none, .int .i64 (latErr L E)]) ∧ Below wq.heap.size wq w' := fun wq g => (n1 wq g).mono fun e w' ⟨p, h1, h2, _, h3⟩ => by rw [h3 h0] at h1; exact ⟨h1, h2⟩
          have n2' : ∀ wq x, Below w.heap.size w wq → LiesP wq x (backE E) → Calls Try.prog 11 #[.slice ao L.length cap, x] wq fun e w' => e = Ending.returned (.tuple #[.pointer none, .int .i64 (latErr L E)]) ∧ Below wq.heap.size wq w' := fun wq x g hx => (n2 wq x g hx).mono fun e w' ⟨p, h1, h2, _, h3⟩ => by rw [h3 h0] at h1; exact ⟨h1, h2⟩
          clear n1 n2 h0 HLE hL hE few
          generalize latErr L E = er at n1' n2'
          go_wp2_with fail
          refine (n1' _ hbk).mono ?_
          rintro e z1 ⟨rfl, b1⟩
          have d1 := btrans hbk b1
          replace ho := ho.keep b1
          go_wp2_with fail
          refine (n2' _ _ d1 ho.lies).mono ?_
          rintro e z2 ⟨rfl, b2⟩
          have d2 := btrans d1 b2
          go_wp2_with fail
          refine (alive_any _).mono ?_
          rintro e y301 ⟨rfl, c301⟩
          replace c301 := btrans d2 c301
          go_wp2_with fail
          go_ret
          exact ⟨rfl, c301⟩

end Go.Proofs.Ytobbomdknahicaa
