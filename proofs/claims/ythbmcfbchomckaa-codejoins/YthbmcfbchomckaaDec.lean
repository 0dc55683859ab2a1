/- Contract of Decode at any text, and at the bytes of a right row. -/
import Derived.Test.YthbmcfbchomckaaDecSpec
import Derived.Test.YthbmcfbchomckaaOwnV
namespace Go.Proofs.Ythbmcfbchomckaa
open Go.RowKit Go.Sort

theorem OwnV.shape {w : World} {base : Nat} {v : Value} {l : List Ent} (h : OwnV w base v l) : ∃ ao cap, v = .slice ao l.length cap := by
  obtain ⟨ao, cap, h, _⟩ := h.lies
  exact ⟨ao, cap, h⟩
/-- A text that is the bytes of a row. -/
def rowS (l : List Ent) : ByteArray := ⟨(encRow l).toArray⟩

/-- A text's length, for a measure. -/
def strLen : Value → Nat
  | .string s => s.size
  | _ => 0

theorem rightE_long {t n : Int} {z : ByteArray} (h : tooLong (t, n, z) = true) : (rightE t n z != 0) = true := by
  have hz : 1000 < z.size := of_decide_eq_true h
  have hne : ¬ z.toList = [] := fun e => by
    rw [empty_of e] at hz
    exact absurd hz (by decide)
  have : rightE t n z ≠ 0 := by
    unfold rightE
    simp only [hne, and_false, if_false, if_pos hz]
    repeat' split
    all_goals decide
  simpa using this
theorem decL_enc : ∀ (l acc : List Ent) (f : Nat), (∀ e ∈ l, Sound e) → (encRow l).length ≤ f → acc.length + l.length ≤ 40 → decL f acc (encRow l) = (acc ++ l, 0)
  | [], acc, f, _, _, _ => by cases f <;> simp [decL, encRow]
  | e :: l, acc, f, hl, hf, h40 => by
    have he := hl e (List.mem_cons_self ..)
    have hr : encRow (e :: l) = encV e ++ encRow l := rfl
    have hne : encRow (e :: l) ≠ [] := by
      rw [hr]; intro h
      exact encV_ne _ (List.append_eq_nil_iff.1 h).1
    have hp := List.length_pos_iff.2 (encV_ne e)
    rw [hr, List.length_append] at hf
    have ht : ¬ tooLong e = true := fun h => by
      have := rightE_long h
      rw [he.1] at this
      exact absurd this (by decide)
    simp only [List.length_cons] at h40
    rw [decL_step hne (by rw [hr, List.length_append]; exact hf), hr, take_encV he]
    simp only
    rw [if_neg ht, if_neg (by omega), decL_enc l (acc ++ [e]) (f - 1) (fun x hx => hl x (List.mem_cons_of_mem _ hx)) (by omega) (by simp; omega)]
    simp
theorem decAll_enc {l : List Ent} (hl : ∀ e ∈ l, Sound e) (h40 : l.length ≤ 40) : decAll (encRow l) = (l, 0) := by
  unfold decAll
  rw [decL_enc l [] _ hl (Nat.le_refl _) (by simpa using h40)]
  rfl

set_option maxHeartbeats 4000000 in
theorem decode_any (s : ByteArray) (hs : s.size ≤ 1000000) (w : World) :
    Calls Try.prog 13 #[.string s] w fun e w' => ∃ v, e = .returned (.tuple #[v, .int .i64 (decAll s.data.toList).2]) ∧ OwnV w' w.heap.size v (decAll s.data.toList).1 ∧ Below w.heap.size w w' := by
  go_enter Try.func13, Try.ntmps13
  go_wp2
  go_loopw [0, 4] (fun x u wr => ∃ (f : Nat) (acc : List Ent) (S : ByteArray), S.size ≤ 1000000 ∧ S.size ≤ f ∧ acc.length ≤ 40 ∧ x = .string S ∧ OwnV wr w.heap.size u acc ∧ decAll s.data.toList = decL f acc S.data.toList ∧ Below w.heap.size w wr) (fun x _ _ => strLen x)
  case atStart => exact ⟨s.size, [], s, hs, Nat.le_refl _, by simp, rfl, OwnV.nil _ _, by unfold decAll; simp, Below.refl _ _⟩
  case round =>
    obtain ⟨f, acc, S, hS, hf, ha, rfl, hr, hd, hbel⟩ := hrel
    have hsz := hbel.size
    have HD : Hid (decAll s.data.toList = decL f acc S.data.toList) := hd
    clear hd
    obtain ⟨ao, cap, rfl⟩ := hr.shape
    by_cases h0 : 0 < S.size
    · have hne : S.data.toList ≠ [] := fun e => by
        have : S.data.toList.length = S.size := by simp
        rw [e] at this; simp at this; omega
      have hemp : S.toList.isEmpty = false := by rw [ByteArray.toList_eq, List.isEmpty_eq_false_iff]; exact hne
      have HF : Hid (decL f acc S.data.toList = match takeV S.data.toList with | none => ([], 10) | some p => if tooLong p.1 = true then ([], 8) else if 40 ≤ acc.length then ([], 8) else decL (f - 1) (acc ++ [p.1]) p.2) := decL_step hne (by simpa using hf)
      have hc1 := takeValue_any S hS h0
      cases hq : takeV S.data.toList with
      | none =>
        rw [hq] at hc1 HF
        have HX : Hid (decAll s.data.toList = ([], 10)) := by show decAll _ = _; rw [HD.out, HF.out]
        simp only [valRes] at hc1
        clear hq hne
        go_wp2_with (go_at_call 24; refine (hc1 _).mono ?_; rintro e w1 ⟨rfl, hb1⟩)
        go_ret2
        rw [HX.out]
        exact ⟨_, rfl, OwnV.nil _ _, btrans hbel (btrans hb1 ((Below.refl _ _).alloc (Nat.le_refl _) _))⟩
      | some p =>
        have hshort := takeV_shorter hq
        have hsound := (takeV_back hq).1
        rw [hq] at hc1 HF
        obtain ⟨⟨t, n, z⟩, r⟩ := p
        simp only [valRes] at hc1
        by_cases h40 : 40 ≤ acc.length
        · have HX : Hid (decAll s.data.toList = ([], 8)) := by show decAll _ = _; rw [HD.out, HF.out]; simp [h40]
          have hq40 : ((acc.length : Int) == 40) = true := by simp; omega
          clear hq hne hshort hsound
          go_wp2_with (go_at_call 24; refine (hc1 _).mono ?_; rintro e w1 ⟨rfl, hb1⟩)
          go_ret2
          rw [HX.out]
          exact ⟨_, rfl, OwnV.nil _ _, btrans hbel (btrans hb1 ((Below.refl _ _).alloc (Nat.le_refl _) _))⟩
        · have hq40 : ((acc.length : Int) == 40) = false := by simp; omega
          by_cases ht : tooLong (t, n, z) = true
          · have HX : Hid (decAll s.data.toList = ([], 8)) := by show decAll _ = _; rw [HD.out, HF.out]; simp [ht]
            have hre := rightE_long ht
            clear hq hne ht hshort hsound
            go_wp2_with (first
              | (go_at_call 24; refine (hc1 _).mono ?_; rintro e w1 ⟨rfl, hb1⟩)
              | (go_at_call 20; refine (right_any t n z _).mono ?_; rintro e w2 ⟨rfl, hb2⟩; have hb3 := bnew hb2))
            go_ret2
            rw [HX.out]
            exact ⟨_, rfl, OwnV.nil _ _, btrans hbel (btrans hb1 hb3)⟩
          · have HX : Hid (decAll s.data.toList = decL (f - 1) (acc ++ [(t, n, z)]) r) := by show decAll _ = _; rw [HD.out, HF.out]; simp [ht, h40]
            have hrt := (hsound (by simpa using ht)).1
            simp only at hrt
            have hSl : S.data.toList.length = S.size := by simp
            simp only at hshort
            rw [hSl] at hshort
            have HR : Hid (r.length < S.size) := hshort
            clear hq hne ht hSl hshort hsound
            go_wp2_with (first
              | (go_at_call 24; refine (hc1 _).mono ?_; rintro e w1 ⟨rfl, hb1⟩; have hsz1 := hb1.size)
              | (go_at_call 20; refine (right_any t n z _).mono ?_; rintro e w2 ⟨rfl, hb2⟩; have pa := (At.alloc w1 t n z).keep hb2; have pa1 := pa.1; have pa2 := pa.2.1; have pa3 := pa.2.2; have hb3 := bnew hb2; have hsz2 := hb3.size)
              | (at_builtin; refine wpList_pushV (.tmp 26) (.tmp 28) rfl rfl rfl (hr.keep (btrans hb1 hb3)) (by omega) [(t, n, z)] rfl rfl (by first | rfl | simp) (by simp; omega) ?_; intro v3 w3 hr3 hbe3))
            have hrs : (ByteArray.mk r.toArray).size = r.length := by show r.toArray.size = _; simp
            have hrl := HR.out
            go_roundw
            case rel => exact ⟨f - 1, acc ++ [(t, n, z)], ⟨r.toArray⟩, by rw [hrs]; omega, by rw [hrs]; omega, by simp; omega, rfl, hr3, HX.out, (hbel.trans ((btrans hb1 hb3).mono hsz)).trans hbe3⟩
            case measure => show (ByteArray.mk r.toArray).size < S.size; rw [hrs]; exact hrl
    · have hS0 : S.data.toList = [] := by
        have : S.data.toList.length = S.size := by simp
        exact List.eq_nil_of_length_eq_zero (by omega)
      have HX : Hid (decAll s.data.toList = (acc, 0)) := by show decAll _ = _; rw [HD.out, hS0]; cases f <;> rfl
      have hemp : S.toList.isEmpty = true := by rw [ByteArray.toList_eq, hS0]; rfl
      clear hS0
      go_wp2_with fail
      go_ret2
      rw [HX.out]
      exact ⟨_, rfl, hr, hbel⟩

theorem decode_enc (l : List Ent) (hl : ∀ e ∈ l, Sound e) (hf : Fair l) (h40 : l.length ≤ 40) (w : World) :
    Calls Try.prog 13 #[.string (rowS l)] w fun e w' => ∃ v, e = .returned (.tuple #[v, .int .i64 0]) ∧ OwnV w' w.heap.size v l ∧ Below w.heap.size w w' := by
  have hlen : (rowS l).size ≤ 1000000 := by
    have h1 := encRow_length (l := l) hf
    show (encRow l).toArray.size ≤ _
    simp at h1 ⊢; omega
  have h := decode_any (rowS l) hlen w
  have hdata : (rowS l).data.toList = encRow l := rfl
  rw [hdata, decAll_enc hl h40] at h
  exact h

end Go.Proofs.Ythbmcfbchomckaa
