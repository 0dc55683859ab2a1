/- The walk of CodeJoins: true, whatever two rows. -/
import Derived.Test.YthbmcfbchomckaaCatV
import Derived.Test.YthbmcfbchomckaaBackLaw
namespace Go.Proofs.Ythbmcfbchomckaa
open Go.RowKit Go.Sort

theorem rowErr_append (l m : List Ent) (h : rowErr l = 0) : rowErr (l ++ m) = rowErr m := by
  induction l with
  | nil => rfl
  | cons a l ih =>
    by_cases ha : rightE a.1 a.2.1 a.2.2 = 0
    · simp only [rowErr, ha, if_true] at h
      simp only [List.cons_append, rowErr, ha, if_true]
      exact ih h
    · simp only [rowErr, ha, if_false] at h
theorem rowErr_of {l : List Ent} (h : encErr l = 0) : rowErr l = 0 := by
  by_cases c : rowErr l = 0
  · exact c
  · unfold encErr at h; rw [if_neg c] at h; exact absurd h c
theorem encErr_append {l m : List Ent} (h : encErr l = 0) (k : encErr m = 0) (hlen : l.length + m.length ≤ 40) : encErr (l ++ m) = 0 := by
  unfold encErr
  rw [rowErr_append l m (rowErr_of h), rowErr_of k, if_pos rfl, if_neg (by rw [List.length_append]; omega)]
theorem rowS_append (l m : List Ent) : rowS l ++ rowS m = rowS (l ++ m) := by
  have h : (rowS l ++ rowS m).data.toList = (rowS (l ++ m)).data.toList := by
    rw [ByteArray.data_append, Array.toList_append]
    simp [rowS, encRow]
  cases hx : rowS l ++ rowS m with
  | mk d =>
    cases hy : rowS (l ++ m) with
    | mk d' =>
      rw [hx, hy] at h
      simp only at h
      rw [Array.toList_inj.1 h]
theorem rowS_size {l : List Ent} (hf : Fair l) (h : l.length ≤ 60) : (rowS l).size ≤ 1000000 := by
  have h1 := encRow_length hf
  show (encRow l).toArray.size ≤ _
  simp
  omega
theorem fair_append {l m : List Ent} (hf : Fair l) (hg : Fair m) : Fair (l ++ m) := fun e he => by
  rcases List.mem_append.1 he with h | h
  · exact hf e h
  · exact hg e h

set_option maxHeartbeats 4000000 in
theorem codeJoins_any (w : World) (v u : Value) (l m : List Ent) (hl : Lies w v l) (hm : Lies w u m) (hlx : l.length ≤ maxLen) (hmx : m.length ≤ maxLen) (hin : ∀ e ∈ l, inR e.1 ∧ inR e.2.1) (him : ∀ e ∈ m, inR e.1 ∧ inR e.2.1) :
    Calls Try.prog 7 #[v, u] w fun e w' => e = .returned (.bool true) ∧ Below w.heap.size w w' := by
  have HL := hl
  have HM := hm
  obtain ⟨ao, cap, rfl, _⟩ := hl
  obtain ⟨bo, cbp, rfl, _⟩ := hm
  by_cases hfew : fewB l = true
  · by_cases hgew : fewB m = true
    · obtain ⟨hf, hlen⟩ := fair_of_few hfew hin
      obtain ⟨hg, hmen⟩ := fair_of_few hgew him
      clear hin him
      go_enter Try.func7, Try.ntmps7
      go_wp2_with fail
      refine (few_any _ _ l HL hlx).mono ?_
      rintro e w1 ⟨rfl, hw1⟩
      subst hw1
      go_wp2_with fail
      refine (few_any _ _ m HM hmx).mono ?_
      rintro e w2 ⟨rfl, hw2⟩
      subst hw2
      go_wp2_with fail
      refine (encode_any _ _ l HL hlen hf).mono ?_
      rintro e w3 ⟨rfl, b3⟩
      go_wp2_with fail
      refine (encode_any _ _ m (HM.keep b3) hmen hg).mono ?_
      rintro e w4 ⟨rfl, b4⟩
      replace b4 := btrans b3 b4
      clear b3
      by_cases h1 : encErr l = 0
      · have h1' : (encErr l != 0) = false := by simp [h1]
        by_cases h2 : encErr m = 0
        · have h2' : (encErr m != 0) = false := by simp [h2]
          by_cases h40 : l.length + m.length ≤ 40
          · have hsl := encS_row h1
            have hsm := encS_row h2
            have hea := encErr_append h1 h2 h40
            have hsa := encS_row hea
            have hcat := rowS_append l m
            have z1 := rowS_size hf hlen
            have z2 := rowS_size hg hmen
            have hfa := fair_append hf hg
            have hla : (l ++ m).length ≤ 60 := by rw [List.length_append]; omega
            have hla' : (l ++ m).length ≤ 40 := by rw [List.length_append]; omega
            have hso := sound_of hea hfa
            have hself := sameB_self (l ++ m)
            have i40 : (l.length : Int) + (m.length : Int) ≤ 40 := by omega
            have HLA : Hid ((l ++ m).length ≤ 60) := hla
            have HLB : Hid ((l ++ m).length ≤ 40) := hla'
            have hb4 := b4.size
            clear h1 h2 hla hla'
            go_wp2_with (first
              | (at_builtin; refine wpList_catV (.tmp 48) (.tmp 49) rfl rfl rfl rfl (OwnV.empty w4 (base := w2.heap.size) hb4 rfl) ((HL.keep b4).keep ((Below.refl _ _).alloc (Nat.le_refl _) _)) (by simp; omega) (by simp; omega) ?_; intro v5 w5 ho5 hb5; have b5 := (b4.trans ((Below.refl _ _).alloc hb4 _)).trans hb5; have hb5' := b5.size)
              | (at_builtin; refine wpList_catV (.tmp 50) (.tmp 51) rfl rfl rfl rfl ho5 (HM.keep b5) hb5' (by simp; omega) ?_; intro v6 w6 ho6 hb6; have b6 := b5.trans hb6; simp only [List.nil_append] at ho6)
              | (go_at_call 10; refine (encode_any _ _ (l ++ m) ho6.lies HLA.out hfa).mono ?_; rintro e w7 ⟨rfl, c7⟩; have b7 := btrans b6 c7)
              | (go_at_call 13; refine (decode_enc (l ++ m) hso hfa HLB.out _).mono ?_; rintro e w8 ⟨v8, rfl, ho8, c8⟩; have b8 := btrans b7 c8)
              | (go_at_call 15; refine (same_any _ _ _ (l ++ m) (l ++ m) ho8.lies ((ho6.keep c7).keep c8).lies HLA.out).mono ?_; rintro e w9 ⟨rfl, c9⟩; have b9 := btrans b8 c9)
              | (go_at_call 9; refine (alive_any _).mono ?_; rintro e wa ⟨rfl, ca⟩; have ba := btrans b9 ca))
            go_ret
            exact ⟨rfl, ba⟩
          · have i40 : (40 : Int) < (l.length : Int) + (m.length : Int) := by omega
            clear h1 h2
            go_wp2_with fail
            refine (alive_any _).mono ?_
            rintro e w9 ⟨rfl, b9⟩
            go_wp2_with fail
            go_ret
            exact ⟨rfl, btrans b4 b9⟩
        · have h2' : (encErr m != 0) = true := by simp [h2]
          clear h1 h2
          go_wp2_with fail
          refine (alive_any _).mono ?_
          rintro e w9 ⟨rfl, b9⟩
          go_wp2_with fail
          go_ret
          exact ⟨rfl, btrans b4 b9⟩
      · have h1' : (encErr l != 0) = true := by simp [h1]
        clear h1
        go_wp2_with fail
        refine (alive_any _).mono ?_
        rintro e w9 ⟨rfl, b9⟩
        go_wp2_with fail
        go_ret
        exact ⟨rfl, btrans b4 b9⟩
    · have hgew' : fewB m = false := by simpa using hgew
      clear hgew
      go_enter Try.func7, Try.ntmps7
      go_wp2_with fail
      refine (few_any _ _ l HL hlx).mono ?_
      rintro e w1 ⟨rfl, hw1⟩
      subst hw1
      go_wp2_with fail
      refine (few_any _ _ m HM hmx).mono ?_
      rintro e w2 ⟨rfl, hw2⟩
      subst hw2
      go_wp2_with fail
      refine (alive_any _).mono ?_
      rintro e w3 ⟨rfl, b3⟩
      go_wp2_with fail
      go_ret
      exact ⟨rfl, b3⟩
  · have hfew' : fewB l = false := by simpa using hfew
    clear hfew
    go_enter Try.func7, Try.ntmps7
    go_wp2_with fail
    refine (few_any _ _ l HL hlx).mono ?_
    rintro e w1 ⟨rfl, hw1⟩
    subst hw1
    go_wp2_with fail
    refine (alive_any _).mono ?_
    rintro e w3 ⟨rfl, b3⟩
    go_wp2_with fail
    go_ret
    exact ⟨rfl, b3⟩

theorem joins_law (v : Value) (l : List Ent) (u : Value) (m : List Ent) {w : World} (hl : Lies w v l) (hm : l.length ≤ maxLen) (hin : ∀ e ∈ l, inR e.1 ∧ inR e.2.1) (hi : Lies w u m) (hmc : m.length ≤ maxLen) (him : ∀ e ∈ m, inR e.1 ∧ inR e.2.1) (_ : World) :
    Calls Try.prog 7 #[v, u] w fun e w' => e = .returned (.bool true) ∧ Below w.heap.size w w' := codeJoins_any w v u l m hl hi hm hmc hin him

end Go.Proofs.Ythbmcfbchomckaa
