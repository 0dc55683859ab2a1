/- The walk of LatticeTables. -/
import Derived.Test.YtobbomdknahicaaAlive3
import Derived.Test.YtobbomdknahicaaFew3
import Derived.Test.YtobbomdknahicaaRefNew
namespace Go.Proofs.Ytobbomdknahicaa
open Go.RowKit Go.Sort

set_option maxHeartbeats 4000000 in
theorem latTables_walk {P Q : Prop} (v u : Value) (L : List ByteArray) (E : List (ByteArray × ByteArray)) (a b : Int) (w : World) (hL : LiesS w v L) (hl : L.length ≤ maxLen) (hE : LiesP w u E) (hel : E.length ≤ maxLen) (_ : P) (_ : Q) :
    Calls Try.prog 4 #[v, u, .int .i64 a, .int .i64 b] w fun e w' => e = .returned (.bool true) ∧ Below w.heap.size w w' := by
  have few := few_any w v u L E hL hE hl hel
  cases hf : fewB L E
  · rw [hf] at few
    clear hL hE hl hel hf
    go_enter Try.func4, Try.ntmps4
    go_wp2_with fail
    refine (few).mono ?_
    rintro e y1 ⟨rfl, c1⟩
    go_wp2_with fail
    refine (alive_any _).mono ?_
    rintro e y2 ⟨rfl, c2⟩
    replace c2 := btrans c1 c2
    go_wp2_with fail
    go_ret
    exact ⟨rfl, c2⟩
  · rw [hf] at few
    obtain ⟨l20, e80⟩ := few_len hf
    have n1 := fun wq (g : Below w.heap.size w wq) => new_any wq v u L E (hL.keep g) (hE.keep g) (by omega) (by omega) (few_s hf) (few_e hf)
    have n2 := fun wq (g : Below w.heap.size w wq) => refNew_any wq v u L E (hL.keep g) (hE.keep g) (by omega) (by omega)
    by_cases h0 : latErr L E = 0
    · rw [h0] at n1 n2
      clear hf h0
      obtain ⟨ao, cap, rfl, _, _⟩ := id hL
      go_enter Try.func4, Try.ntmps4
      go_wp2_with fail
      refine (few).mono ?_
      rintro e y1 ⟨rfl, c1⟩
      go_wp2_with fail
      refine (n1 _ c1).mono ?_
      rintro e z1 ⟨p1, rfl, b1, hlat, _⟩
      replace hlat := hlat (by trivial)
      obtain ⟨q1, rfl⟩ := hlat.ptr
      have d1 := btrans c1 b1
      go_wp2_with fail
      refine (n2 _ d1).mono ?_
      rintro e z2 ⟨p2, rfl, b2, rlat, _⟩
      replace rlat := rlat (by trivial)
      obtain ⟨q2, rfl⟩ : ∃ q, p2 = .pointer (some ⟨q, 0, none⟩) := by obtain ⟨b, _, _, _, h, _⟩ := rlat; exact ⟨b, h⟩
      replace hlat := hlat.keep b2
      have d2 := btrans d1 b2
      have r0 : Below z2.heap.size z2 z2 := Below.refl _ _
      clear n1 n2 b1 b2
      have l1 := fun (x y : Int) wq (g : Below z2.heap.size z2 wq) => leq_any wq _ L E (hlat.keep g) x y
      have l2 := fun (x y : Int) wq (g : Below z2.heap.size z2 wq) => refLeq_any wq _ L _ (rlat.keep g) x y
      have j1 := fun (x y : Int) wq (g : Below z2.heap.size z2 wq) => join_any wq _ L E (hlat.keep g) x y
      have j2 := fun (x y : Int) wq (g : Below z2.heap.size z2 wq) => refJoin_any wq _ L _ (rlat.keep g) (by omega) x y
      have m1 := fun (x y : Int) wq (g : Below z2.heap.size z2 wq) => meet_any wq _ L E (hlat.keep g) x y
      have m2 := fun (x y : Int) wq (g : Below z2.heap.size z2 wq) => refMeet_any wq _ L _ (rlat.keep g) (by omega) x y
      have a1 := fun wq (g : Below z2.heap.size z2 wq) => above_any wq _ L E (hlat.keep g) a
      have a2 := fun wq (g : Below z2.heap.size z2 wq) => refAbove_any wq _ L _ (rlat.keep g) (by omega) a
      have a3 := fun wq x y (hx : LiesN wq x (aboveI (leL L E) L.length a)) (hy : LiesN wq y (aboveI (leL L E) L.length a)) => refInts_any wq x y _ _ hx hy (Nat.le_trans (above_length ..) (by omega))
      have e1 : leR L.length (fun a b => reach (ixE L E) a L.length b) = leL L E := rfl
      rw [e1] at a2
      simp only [e1] at l2 j2 m2
      have a3' := fun wq x y hx hy => (a3 wq x y hx hy)
      simp only [decide_true] at a3'
      clear e1 a3 hlat rlat hL hE hl hel few
      generalize aboveI (leL L E) L.length a = ab at a1 a2 a3'
      generalize joinI (leL L E) L.length = J at j1 j2
      generalize meetI (leL L E) L.length = M at m1 m2
      generalize leL L E = le at l1 l2
      generalize L.length = n at l20
      go_wp2_with fail
      refine (l1 a b _ r0).mono ?_
      rintro e y2 ⟨rfl, c2⟩
      replace c2 := btrans r0 c2
      go_wp2_with fail
      refine (l2 a b _ c2).mono ?_
      rintro e y3 ⟨rfl, c3⟩
      replace c3 := btrans c2 c3
      go_wp2_with fail
      refine (j1 a b _ c3).mono ?_
      rintro e y4 ⟨rfl, c4⟩
      replace c4 := btrans c3 c4
      go_wp2_with fail
      refine (j2 a b _ c4).mono ?_
      rintro e y5 ⟨rfl, c5⟩
      replace c5 := btrans c4 c5
      go_wp2_with fail
      refine (m1 a b _ c5).mono ?_
      rintro e y6 ⟨rfl, c6⟩
      replace c6 := btrans c5 c6
      go_wp2_with fail
      refine (m2 a b _ c6).mono ?_
      rintro e y7 ⟨rfl, c7⟩
      replace c7 := btrans c6 c7
      go_wp2_with fail
      refine (a1 _ c7).mono ?_
      rintro e y8 ⟨x1, rfl, hx1, c8⟩
      replace c8 := btrans c7 c8
      go_wp2_with fail
      refine (a2 _ c8).mono ?_
      rintro e y9 ⟨x2, rfl, hx2, c9⟩
      replace hx1 := hx1.keep c9
      replace c9 := btrans c8 c9
      go_wp2_with fail
      refine (a3' _ _ _ hx1 hx2).mono ?_
      rintro e y10 ⟨rfl, c10⟩
      replace c10 := btrans c9 c10
      clear hx1 hx2 a1 a2 a3'
      go_wp2_with fail
      go_loopw [87] (fun i wr => ∃ k : Nat, k ≤ n ∧ i = .int .i64 k ∧ Below z2.heap.size z2 wr) (fun i _ => n - (intOf i).toNat)
      case atStart => exact ⟨0, Nat.zero_le _, rfl, c10⟩
      case round =>
        obtain ⟨k, hkl, rfl, hbk⟩ := hrel
        by_cases hk : k < n
        · go_wp2_with fail
          go_loopw [92] (fun i wr => ∃ m : Nat, m ≤ n ∧ i = .int .i64 m ∧ Below z2.heap.size z2 wr) (fun i _ => n - (intOf i).toNat)
          case atStart => exact ⟨0, Nat.zero_le _, rfl, hbk⟩
          case round =>
            obtain ⟨m, hml, rfl, hbm⟩ := hrel
            by_cases hm : m < n
            · skip
              go_wp2_with fail
              refine (l1 k m _ hbm).mono ?_
              rintro e y101 ⟨rfl, c101⟩
              replace c101 := btrans hbm c101
              go_wp2_with fail
              refine (l2 k m _ c101).mono ?_
              rintro e y102 ⟨rfl, c102⟩
              replace c102 := btrans c101 c102
              go_wp2_with fail
              refine (j1 k m _ c102).mono ?_
              rintro e y103 ⟨rfl, c103⟩
              replace c103 := btrans c102 c103
              go_wp2_with fail
              refine (j2 k m _ c103).mono ?_
              rintro e y104 ⟨rfl, c104⟩
              replace c104 := btrans c103 c104
              go_wp2_with fail
              refine (m1 k m _ c104).mono ?_
              rintro e y105 ⟨rfl, c105⟩
              replace c105 := btrans c104 c105
              go_wp2_with fail
              refine (m2 k m _ c105).mono ?_
              rintro e y106 ⟨rfl, c106⟩
              replace c106 := btrans c105 c106
              go_wp2_with fail
              go_roundw
              case rel => exact ⟨m + 1, by omega, by go_num, c106⟩
              case measure => simp [intOf]; omega
            · have hmn : m = n := by omega
              subst hmn
              go_wp2_with fail
              go_roundw
              case rel => exact ⟨k + 1, by omega, by go_num, hbm⟩
              case measure => simp [intOf]; omega
        · have hkn : k = n := by omega
          subst hkn
          go_wp2_with fail
          refine (alive_any _).mono ?_
          rintro e y201 ⟨rfl, c201⟩
          replace c201 := btrans hbk c201
          go_wp2_with fail
          go_ret
          exact ⟨rfl, btrans d2 c201⟩
    · have n1' : ∀ wq, Below w.heap.size w wq → Calls Try.prog 11 #[v, u] wq fun e w' => e = Ending.returned (.tuple #[.pointer none, .int .i64 (latErr L E)]) ∧ Below wq.heap.size wq w' := fun wq g => (n1 wq g).mono fun e w' ⟨p, h1, h2, _, h3⟩ => by rw [h3 h0] at h1; exact ⟨h1, h2⟩
      have n2' : ∀ wq, Below w.heap.size w wq → Calls Try.prog 12 #[v, u] wq fun e w' => e = Ending.returned (.tuple #[.pointer none, .int .i64 (latErr L E)]) ∧ Below wq.heap.size wq w' := fun wq g => (n2 wq g).mono fun e w' ⟨p, h1, h2, _, h3⟩ => by rw [h3 h0] at h1; exact ⟨h1, h2⟩
      have hb : (latErr L E != 0) = true := by simpa using h0
      clear n1 n2 hf h0 hL hE hl hel
      generalize latErr L E = er at n1' n2' hb
      go_enter Try.func4, Try.ntmps4
      go_wp2_with fail
      refine (few).mono ?_
      rintro e y1 ⟨rfl, c1⟩
      go_wp2_with fail
      refine (n1' _ c1).mono ?_
      rintro e y2 ⟨rfl, c2⟩
      replace c2 := btrans c1 c2
      go_wp2_with fail
      refine (n2' _ c2).mono ?_
      rintro e y3 ⟨rfl, c3⟩
      replace c3 := btrans c2 c3
      go_wp2_with fail
      refine (alive_any _).mono ?_
      rintro e y4 ⟨rfl, c4⟩
      replace c4 := btrans c3 c4
      go_wp2_with fail
      go_ret
      exact ⟨rfl, c4⟩

end Go.Proofs.Ytobbomdknahicaa
