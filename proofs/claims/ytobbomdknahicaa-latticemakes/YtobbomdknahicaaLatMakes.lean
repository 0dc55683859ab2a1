/- The walk of LatticeMakes. -/
import Derived.Test.YtobbomdknahicaaAlive3
import Derived.Test.YtobbomdknahicaaFew3
import Derived.Test.YtobbomdknahicaaRefNew
namespace Go.Proofs.Ytobbomdknahicaa
open Go.RowKit Go.Sort

theorem find_same (L : List ByteArray) (s : ByteArray) : (hasB L s == decide (0 ≤ findI L s)) = true := by
  unfold findI
  cases hasB L s <;> simp
set_option maxHeartbeats 4000000 in
theorem latMakes_walk (v u : Value) (L : List ByteArray) (E : List (ByteArray × ByteArray)) (s : ByteArray) (w : World) (hL : LiesS w v L) (hl : L.length ≤ maxLen) (hE : LiesP w u E) (hel : E.length ≤ maxLen) (hs : s.size ≤ maxLen) :
    Calls Try.prog 3 #[v, u, .string s] w fun e w' => e = .returned (.bool true) ∧ Below w.heap.size w w' := by
  have few := few_any w v u L E hL hE hl hel
  cases hf : fewB L E
  · rw [hf] at few
    clear hL hE hl hel hf
    go_enter Try.func3, Try.ntmps3
    go_wp2_with fail
    refine (few).mono ?_
    rintro e y1 ⟨rfl, c1⟩
    go_wp2_with fail
    refine (alive_any _).mono ?_
    rintro e y2 ⟨rfl, c2⟩
    replace c2 := btrans c1 c2
    go_wp2_with fail
    go_ret
    exact ⟨rfl, c2⟩
  · rw [hf] at few
    obtain ⟨l20, e80⟩ := few_len hf
    have n1 := fun wq (g : Below w.heap.size w wq) => new_any wq v u L E (hL.keep g) (hE.keep g) (by omega) (by omega) (few_s hf) (few_e hf)
    have n2 := fun wq (g : Below w.heap.size w wq) => refNew_any wq v u L E (hL.keep g) (hE.keep g) (by omega) (by omega)
    by_cases h0 : latErr L E = 0
    · rw [h0] at n1 n2
      clear hf h0
      go_enter Try.func3, Try.ntmps3
      go_wp2_with fail
      refine (few).mono ?_
      rintro e y1 ⟨rfl, c1⟩
      go_wp2_with fail
      refine (n1 _ c1).mono ?_
      rintro e z1 ⟨p1, rfl, b1, hlat, _⟩
      replace hlat := hlat (by trivial)
      obtain ⟨q1, rfl⟩ := hlat.ptr
      have d1 := btrans c1 b1
      go_wp2_with fail
      refine (n2 _ d1).mono ?_
      rintro e z2 ⟨p2, rfl, b2, rlat, _⟩
      replace rlat := rlat (by trivial)
      obtain ⟨q2, rfl⟩ : ∃ q, p2 = .pointer (some ⟨q, 0, none⟩) := by obtain ⟨b, _, _, _, h, _⟩ := rlat; exact ⟨b, h⟩
      replace hlat := hlat.keep b2
      have d2 := btrans d1 b2
      have r0 : Below z2.heap.size z2 z2 := Below.refl _ _
      clear n1 n2 b1 b2
      have hsame := find_same L s
      have f2 := fun wq (g : Below z2.heap.size z2 wq) => refFind_any wq v L s ((hL.keep d2).keep g) (by omega)
      have f1 := fun wq (g : Below z2.heap.size z2 wq) => find_any wq _ L E (hlat.keep g) s hs
      have g1 := fun wq (g : Below z2.heap.size z2 wq) => levels_any wq _ L E (hlat.keep g)
      have g2 := fun wq x (g : Below z2.heap.size z2 wq) (hx : LiesS wq x L) => refTexts_any wq x v L L hx ((hL.keep d2).keep g) (by omega)
      have g3 := fun wq (g : Below z2.heap.size z2 wq) => bottom_any wq _ L E (hlat.keep g)
      have g4 := fun wq (g : Below z2.heap.size z2 wq) => refBottom_any wq _ L _ (rlat.keep g) (by omega)
      have g5 := fun wq (g : Below z2.heap.size z2 wq) => top_any wq _ L E (hlat.keep g)
      have g6 := fun wq (g : Below z2.heap.size z2 wq) => refTop_any wq _ L _ (rlat.keep g) (by omega)
      have e1 : leR L.length (fun a b => reach (ixE L E) a L.length b) = leL L E := rfl
      rw [e1] at g4 g6
      rw [decide_eq_true rfl] at g2
      clear e1 hlat rlat hL hE hl hel few
      generalize botI (leL L E) L.length = bo at g3 g4
      generalize topI (leL L E) L.length = tq at g5 g6
      cases hh : hasB L s
      · rw [hh] at f1
        rw [show findI L s = -1 by unfold findI; rw [hh]; rfl] at f2
        simp only [Bool.false_eq_true, if_false] at f1
        clear hsame hh
        go_wp2_with fail
        refine (f1 _ r0).mono ?_
        rintro e y3 ⟨rfl, c3⟩
        replace c3 := btrans r0 c3
        go_wp2_with fail
        refine (f2 _ c3).mono ?_
        rintro e y4 ⟨rfl, c4⟩
        replace c4 := btrans c3 c4
        go_wp2_with fail
        refine (g1 _ c4).mono ?_
        rintro e y5 ⟨x, rfl, hx, c5⟩
        replace c5 := btrans c4 c5
        go_wp2_with fail
        refine (g2 _ _ c5 hx).mono ?_
        rintro e y6 ⟨rfl, c6⟩
        replace c6 := btrans c5 c6
        go_wp2_with fail
        refine (g3 _ c6).mono ?_
        rintro e y7 ⟨rfl, c7⟩
        replace c7 := btrans c6 c7
        go_wp2_with fail
        refine (g4 _ c7).mono ?_
        rintro e y8 ⟨rfl, c8⟩
        replace c8 := btrans c7 c8
        go_wp2_with fail
        refine (g5 _ c8).mono ?_
        rintro e y9 ⟨rfl, c9⟩
        replace c9 := btrans c8 c9
        go_wp2_with fail
        refine (g6 _ c9).mono ?_
        rintro e y10 ⟨rfl, c10⟩
        replace c10 := btrans c9 c10
        go_wp2_with fail
        refine (alive_any _).mono ?_
        rintro e y11 ⟨rfl, c11⟩
        replace c11 := btrans c10 c11
        go_wp2_with fail
        go_ret
        exact ⟨rfl, btrans d2 c11⟩
      · rw [hh] at f1
        rw [(findI_pos hh).1] at f2
        simp only [if_true] at f1
        generalize posN L s = po at f1 f2
        have hpo : decide ((0 : Int) ≤ (po : Int)) = true := by simp
        have hpn : decide ((po : Int) < 0) = false := decide_eq_false (by omega)
        clear hsame hh
        go_wp2_with fail
        refine (f1 _ r0).mono ?_
        rintro e y3 ⟨rfl, c3⟩
        replace c3 := btrans r0 c3
        go_wp2_with fail
        refine (f2 _ c3).mono ?_
        rintro e y4 ⟨rfl, c4⟩
        replace c4 := btrans c3 c4
        go_wp2_with fail
        refine (g1 _ c4).mono ?_
        rintro e y5 ⟨x, rfl, hx, c5⟩
        replace c5 := btrans c4 c5
        go_wp2_with fail
        refine (g2 _ _ c5 hx).mono ?_
        rintro e y6 ⟨rfl, c6⟩
        replace c6 := btrans c5 c6
        go_wp2_with fail
        refine (g3 _ c6).mono ?_
        rintro e y7 ⟨rfl, c7⟩
        replace c7 := btrans c6 c7
        go_wp2_with fail
        refine (g4 _ c7).mono ?_
        rintro e y8 ⟨rfl, c8⟩
        replace c8 := btrans c7 c8
        go_wp2_with fail
        refine (g5 _ c8).mono ?_
        rintro e y9 ⟨rfl, c9⟩
        replace c9 := btrans c8 c9
        go_wp2_with fail
        refine (g6 _ c9).mono ?_
        rintro e y10 ⟨rfl, c10⟩
        replace c10 := btrans c9 c10
        go_wp2_with fail
        refine (alive_any _).mono ?_
        rintro e y11 ⟨rfl, c11⟩
        replace c11 := btrans c10 c11
        go_wp2_with fail
        go_ret
        exact ⟨rfl, btrans d2 c11⟩
    · have hb : (latErr L E == 0) = false := by simpa using h0
      have n1' : ∀ wq, Below w.heap.size w wq → Calls Try.prog 11 #[v, u] wq fun e w' => e = Ending.returned (.tuple #[.pointer none, .int .i64 (latErr L E)]) ∧ Below wq.heap.size wq w' := fun wq g => (n1 wq g).mono fun e w' ⟨p, h1, h2, _, h3⟩ => by rw [h3 h0] at h1; exact ⟨h1, h2⟩
      have n2' : ∀ wq, Below w.heap.size w wq → Calls Try.prog 12 #[v, u] wq fun e w' => e = Ending.returned (.tuple #[.pointer none, .int .i64 (latErr L E)]) ∧ Below wq.heap.size wq w' := fun wq g => (n2 wq g).mono fun e w' ⟨p, h1, h2, _, h3⟩ => by rw [h3 h0] at h1; exact ⟨h1, h2⟩
      clear n1 n2 hf h0 hL hE hl hel hb
      generalize latErr L E = er at n1' n2'
      go_enter Try.func3, Try.ntmps3
      go_wp2_with fail
      refine (few).mono ?_
      rintro e y1 ⟨rfl, c1⟩
      go_wp2_with fail
      refine (n1' _ c1).mono ?_
      rintro e y2 ⟨rfl, c2⟩
      replace c2 := btrans c1 c2
      go_wp2_with fail
      refine (n2' _ c2).mono ?_
      rintro e y3 ⟨rfl, c3⟩
      replace c3 := btrans c2 c3
      go_wp2_with fail
      refine (alive_any _).mono ?_
      rintro e y4 ⟨rfl, c4⟩
      replace c4 := btrans c3 c4
      go_wp2_with fail
      go_ret
      exact ⟨rfl, c4⟩

end Go.Proofs.Ytobbomdknahicaa
