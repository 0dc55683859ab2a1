/- The walk of CodeOrder: true, whatever two rows. -/
import Derived.Test.YthbmcfbchomckaaOrdEnc
import Derived.Test.YthbmcfbchomckaaSameRow
import Derived.Test.YthbmcfbchomckaaKey
import Derived.Test.YthbmcfbchomckaaFew
namespace Go.Proofs.Ythbmcfbchomckaa
open Go.RowKit Go.Sort

theorem enc_eq (l m : List Ent) (hl : ∀ e ∈ l, Sound e) (hm : ∀ e ∈ m, Sound e) (x : Int) (hx : ordRow l m = x) : (encRow l == encRow m) = decide (x = 0) := by
  subst hx
  have q1 := enc_less l m hl hm
  have q2 := enc_less m l hm hl
  rw [ordRow_anti] at q2
  by_cases h : ordRow l m = 0
  · have e1 : Op.bytesLess (encRow l) (encRow m) = false := by rw [q1]; simp [h]
    have e2 : Op.bytesLess (encRow m) (encRow l) = false := by rw [q2]; simp [h]
    rw [bl_tri _ _ e1 e2]
    simp [h]
  · have : ¬ encRow l = encRow m := fun e => by
      rw [e, bl_irrefl] at q1 q2
      have c1 := of_decide_eq_false q1.symm
      have c2 := of_decide_eq_false q2.symm
      omega
    simp [h, this]
set_option maxHeartbeats 4000000 in
theorem codeOrder_any (w : World) (v u : Value) (l m : List Ent) (hl : Lies w v l) (hm : Lies w u m) (hlx : l.length ≤ maxLen) (hmx : m.length ≤ maxLen) (hin : ∀ e ∈ l, inR e.1 ∧ inR e.2.1) (him : ∀ e ∈ m, inR e.1 ∧ inR e.2.1) :
    Calls Try.prog 6 #[v, u] w fun e w' => e = .returned (.bool true) ∧ Below w.heap.size w w' := by
  by_cases hfew : fewB l = true
  · by_cases hgew : fewB m = true
    · obtain ⟨hf, hlen⟩ := fair_of_few hfew hin
      obtain ⟨hg, hmen⟩ := fair_of_few hgew him
      have hanti := ordRow_anti l m
      have hrng := ordRow_range l m
      clear hin him
      go_enter Try.func6, Try.ntmps6
      go_wp2_with fail
      refine (few_any _ _ l hl hlx).mono ?_
      rintro e w1 ⟨rfl, hw1⟩
      subst hw1
      go_wp2_with fail
      refine (few_any _ _ m hm hmx).mono ?_
      rintro e w2 ⟨rfl, hw2⟩
      subst hw2
      go_wp2_with fail
      refine (ordRow_any _ _ _ l m hl hm hlen hmen).mono ?_
      rintro e w3 ⟨rfl, b3⟩
      go_wp2_with fail
      refine (refOrdRow_any _ _ _ l m (hl.keep b3) (hm.keep b3) hlen hmen hf hg).mono ?_
      rintro e w4 ⟨rfl, b4⟩
      replace b4 := btrans b3 b4
      clear b3
      go_wp2_with fail
      refine (ordRow_any _ _ _ m l (hm.keep b4) (hl.keep b4) hmen hlen).mono ?_
      rintro e w5 ⟨rfl, b5⟩
      replace b5 := btrans b4 b5
      clear b4
      go_wp2_with fail
      refine (ordRow_any _ _ _ l m (hl.keep b5) (hm.keep b5) hlen hmen).mono ?_
      rintro e w6 ⟨rfl, b6⟩
      replace b6 := btrans b5 b6
      clear b5
      go_wp2_with fail
      refine (encode_any _ _ l (hl.keep b6) hlen hf).mono ?_
      rintro e w7 ⟨rfl, b7⟩
      replace b7 := btrans b6 b7
      clear b6
      go_wp2_with fail
      refine (encode_any _ _ m (hm.keep b7) hmen hg).mono ?_
      rintro e w8 ⟨rfl, b8⟩
      replace b8 := btrans b7 b8
      clear b7
      by_cases h1 : encErr l = 0
      · have h1' : (encErr l != 0) = false := by simp [h1]
        by_cases h2 : encErr m = 0
        · have h2' : (encErr m != 0) = false := by simp [h2]
          have q1 := enc_less l m (sound_of h1 hf) (sound_of h2 hg)
          have q2 := enc_less m l (sound_of h2 hg) (sound_of h1 hf)
          have q3 := enc_eq l m (sound_of h1 hf) (sound_of h2 hg)
          have el := encS_list h1
          have em := encS_list h2
          have hx : ordRow l m = -1 ∨ ordRow l m = 0 ∨ ordRow l m = 1 := by omega
          clear h1 h2
          rcases hx with hx | hx | hx
          · have hx' : ordRow l m = -1 := by omega
            have t1 : Op.bytesLess (encS l).toList (encS m).toList = true := by rw [el, em, q1, hx']; decide
            have t2 : Op.bytesLess (encS m).toList (encS l).toList = false := by rw [el, em, q2, ordRow_anti, hx']; decide
            have t3 : ((encS l).toList == (encS m).toList) = false := by rw [el, em]; exact q3 (-1) hx'
            have t4 : sameB l m = false := by rw [sameB_iff, hx']; decide
            clear el em q1 q2 q3 hanti hrng
            go_wp2_with fail
            refine (ordRow_any _ _ _ l m (hl.keep b8) (hm.keep b8) hlen hmen).mono ?_
            rintro e w9 ⟨rfl, b9⟩
            replace b9 := btrans b8 b9
            go_wp2_with fail
            refine (same_any _ _ _ l m (hl.keep b9) (hm.keep b9) hlen).mono ?_
            rintro e wa ⟨rfl, ba⟩
            replace ba := btrans b9 ba
            go_wp2_with fail
            refine (alive_any _).mono ?_
            rintro e wb ⟨rfl, bb⟩
            go_wp2_with fail
            go_ret
            exact ⟨rfl, btrans ba bb⟩
          · have hx' : ordRow l m = 0 := by omega
            have t1 : Op.bytesLess (encS l).toList (encS m).toList = false := by rw [el, em, q1, hx']; decide
            have t2 : Op.bytesLess (encS m).toList (encS l).toList = false := by rw [el, em, q2, ordRow_anti, hx']; decide
            have t3 : ((encS l).toList == (encS m).toList) = true := by rw [el, em]; exact q3 0 hx'
            have t4 : sameB l m = true := by rw [sameB_iff, hx']; decide
            clear el em q1 q2 q3 hanti hrng
            go_wp2_with fail
            refine (ordRow_any _ _ _ l m (hl.keep b8) (hm.keep b8) hlen hmen).mono ?_
            rintro e w9 ⟨rfl, b9⟩
            replace b9 := btrans b8 b9
            go_wp2_with fail
            refine (same_any _ _ _ l m (hl.keep b9) (hm.keep b9) hlen).mono ?_
            rintro e wa ⟨rfl, ba⟩
            replace ba := btrans b9 ba
            go_wp2_with fail
            refine (alive_any _).mono ?_
            rintro e wb ⟨rfl, bb⟩
            go_wp2_with fail
            go_ret
            exact ⟨rfl, btrans ba bb⟩
          · have hx' : ordRow l m = 1 := by omega
            have t1 : Op.bytesLess (encS l).toList (encS m).toList = false := by rw [el, em, q1, hx']; decide
            have t2 : Op.bytesLess (encS m).toList (encS l).toList = true := by rw [el, em, q2, ordRow_anti, hx']; decide
            have t3 : ((encS l).toList == (encS m).toList) = false := by rw [el, em]; exact q3 1 hx'
            have t4 : sameB l m = false := by rw [sameB_iff, hx']; decide
            clear el em q1 q2 q3 hanti hrng
            go_wp2_with fail
            refine (ordRow_any _ _ _ l m (hl.keep b8) (hm.keep b8) hlen hmen).mono ?_
            rintro e w9 ⟨rfl, b9⟩
            replace b9 := btrans b8 b9
            go_wp2_with fail
            refine (same_any _ _ _ l m (hl.keep b9) (hm.keep b9) hlen).mono ?_
            rintro e wa ⟨rfl, ba⟩
            replace ba := btrans b9 ba
            go_wp2_with fail
            refine (alive_any _).mono ?_
            rintro e wb ⟨rfl, bb⟩
            go_wp2_with fail
            go_ret
            exact ⟨rfl, btrans ba bb⟩
        · have h2' : (encErr m != 0) = true := by simp [h2]
          clear h1 h2
          go_wp2_with fail
          refine (alive_any _).mono ?_
          rintro e w9 ⟨rfl, b9⟩
          go_wp2_with fail
          go_ret
          exact ⟨rfl, btrans b8 b9⟩
      · have h1' : (encErr l != 0) = true := by simp [h1]
        clear h1
        go_wp2_with fail
        refine (alive_any _).mono ?_
        rintro e w9 ⟨rfl, b9⟩
        go_wp2_with fail
        go_ret
        exact ⟨rfl, btrans b8 b9⟩
    · have hgew' : fewB m = false := by simpa using hgew
      clear hgew
      go_enter Try.func6, Try.ntmps6
      go_wp2_with fail
      refine (few_any _ _ l hl hlx).mono ?_
      rintro e w1 ⟨rfl, hw1⟩
      subst hw1
      go_wp2_with fail
      refine (few_any _ _ m hm hmx).mono ?_
      rintro e w2 ⟨rfl, hw2⟩
      subst hw2
      go_wp2_with fail
      refine (alive_any _).mono ?_
      rintro e w3 ⟨rfl, b3⟩
      go_wp2_with fail
      go_ret
      exact ⟨rfl, b3⟩
  · have hfew' : fewB l = false := by simpa using hfew
    clear hfew
    go_enter Try.func6, Try.ntmps6
    go_wp2_with fail
    refine (few_any _ _ l hl hlx).mono ?_
    rintro e w1 ⟨rfl, hw1⟩
    subst hw1
    go_wp2_with fail
    refine (alive_any _).mono ?_
    rintro e w3 ⟨rfl, b3⟩
    go_wp2_with fail
    go_ret
    exact ⟨rfl, b3⟩

theorem order_law (v : Value) (l : List Ent) (u : Value) (m : List Ent) {w : World} (hl : Lies w v l) (hm : l.length ≤ maxLen) (hin : ∀ e ∈ l, inR e.1 ∧ inR e.2.1) (hi : Lies w u m) (hmc : m.length ≤ maxLen) (him : ∀ e ∈ m, inR e.1 ∧ inR e.2.1) (_ : World) :
    Calls Try.prog 6 #[v, u] w fun e w' => e = .returned (.bool true) ∧ Below w.heap.size w w' := codeOrder_any w v u l m hl hi hm hmc hin him

end Go.Proofs.Ythbmcfbchomckaa
