/- The law RowsSorts, walked. -/
import Derived.Test.YtalfeggddfpgeaaDoorRwRefSort
namespace Go.Proofs.YtalfeggddfpgeaaDoor
open Go.RowKit Go.Sort

theorem LiesLL.pair {w : World} {v u : Value} {A B : List Row} (hA : LiesR w v A) (hB : LiesR w u B) : LiesLL (w.alloc (.cells #[v, u] 22)) (.slice (some ⟨w.heap.size, 0, none⟩) 2 2) [A, B] := by
  have hk : Below w.heap.size w (w.alloc (.cells #[v, u] 22)) := (Below.refl _ _).alloc (Nat.le_refl _) _
  refine ⟨_, 2, rfl, fun i hi => ⟨w.heap.size, 0, ?_⟩⟩
  match i, hi with
  | 0, _ => exact ⟨v, rfl, by simp [go_sem], hA.keep hk⟩
  | 1, _ => exact ⟨u, rfl, by simp [go_sem], hB.keep hk⟩

set_option maxRecDepth 100000 in
set_option maxHeartbeats 8000000 in
theorem rowsSorts_any (v vk vd : Value) (L K : List Row) (d : List Bool) (w : World) (hL : LiesR w v L) (hK : LiesR w vk K) (hd : LiesB w vd d) (iL : ∀ r ∈ L, ∀ e ∈ r, inR e.1 ∧ inR e.2.1) (iK : ∀ r ∈ K, ∀ e ∈ r, inR e.1 ∧ inR e.2.1) :
    Calls Tryd.prog 3 #[v, vk, vd] w fun e w' => e = .returned (.bool true) ∧ Below w.heap.size w w' := by
  obtain ⟨ao, ac, hv, _, _⟩ := id hL
  obtain ⟨bo, bc, hu, _, _⟩ := id hK
  have hf := few_any _ _ [L, K] (LiesLL.pair hL hK) (by simp)
  rw [few_pair] at hf
  subst hv hu
  cases hz : (okL L && okL K)
  · rw [hz] at hf
    clear hL hK hd
    go_enter Tryd.func3, Tryd.ntmps3
    go_wp2_with fail
    refine hf.mono ?_
    rintro e w1 ⟨rfl, b1⟩
    go_wp2_with fail
    refine (alive_any _).mono ?_
    rintro e w2 ⟨rfl, b2⟩
    go_wp2_with fail
    go_ret
    exact ⟨rfl, btrans (bnew b1) b2⟩
  · rw [hz] at hf
    rw [Bool.and_eq_true] at hz
    obtain ⟨rL, lL⟩ := right_of_ok hz.1 iL
    obtain ⟨rK, lK⟩ := right_of_ok hz.2 iK
    have sL := rL.small
    have sK := rK.small
    have fK : ∀ r ∈ K, r.length ≤ 60 ∧ Fair r := fun r hr => ⟨sK r hr, (rK r hr).1.2⟩
    clear hz iL iK
    go_enter Tryd.func3, Tryd.ntmps3
    go_wp2_with fail
    refine hf.mono ?_
    rintro e w1 ⟨rfl, b1⟩
    have k1 := bnew b1
    clear hf b1
    go_wp2_with fail
    refine (sort_any _ _ _ _ L K d (hL.keep k1) (hK.keep k1) (hd.keep k1) (by omega) sK sL (sortOK L.length lL)).mono ?_
    rintro e w2 ⟨u, P, rfl, hp, hs, lu, b2⟩
    have k2 := btrans k1 b2
    go_wp2_with fail
    refine (refSort_any _ _ _ _ L K d (hL.keep k2) (hK.keep k2) (hd.keep k2) (by omega) fK).mono ?_
    rintro e w3 ⟨u', P', rfl, hp', hs', lu', b3⟩
    have hPP : P = P' := by
      have h1 : P.length = L.length := by rw [hp.length_eq]; simp
      exact sorted_unique (pre_cfK K d) (hp.trans hp'.symm) (by rw [h1]; exact hs) (sortedOn_of hs')
    subst hPP
    replace lu : LiesR w2 u (rowsBy L P) := lu
    have luk := lu.keep b3
    have hTl := rowsBy_length hp
    have sT : Small (rowsBy L P) := fun r hr => sL r ((rowsBy_perm hp).mem_iff.1 hr)
    have k3 := btrans k2 b3
    generalize rowsBy L P = T at luk lu' hTl sT lu
    clear hp hs hp' hs' lu b2 b3 k1 k2 hL hK hd
    go_wp2_with fail
    refine (sameRR_any _ _ _ T T luk lu' (by omega) (by omega) sT).mono ?_
    rintro e w4 ⟨rfl, b4⟩
    rw [decide_eq_true rfl]
    go_wp2_with fail
    refine (alive_any _).mono ?_
    rintro e w5 ⟨rfl, b5⟩
    go_wp2_with fail
    go_ret
    exact ⟨rfl, btrans (btrans k3 b4) b5⟩

end Go.Proofs.YtalfeggddfpgeaaDoor
