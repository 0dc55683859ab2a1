/- The walk of CodeDecodes, over what Decode answers at any text. -/
import Derived.Test.YthbmcfbchomckaaRefDec
import Derived.Test.YthbmcfbchomckaaSameRow
import Derived.Test.YthbmcfbchomckaaKey
namespace Go.Proofs.Ythbmcfbchomckaa
open Go.RowKit Go.Sort

theorem rowErr_sound {l : List Ent} (h : ∀ e ∈ l, Sound e) : rowErr l = 0 := by
  induction l with
  | nil => rfl
  | cons a l ih =>
    rw [rowErr, if_pos (h a (List.mem_cons_self ..)).1]
    exact ih fun e he => h e (List.mem_cons_of_mem _ he)
theorem encErr_sound {l : List Ent} (h : ∀ e ∈ l, Sound e) (hl : l.length ≤ 40) : encErr l = 0 := by
  unfold encErr
  rw [rowErr_sound h, if_pos rfl, if_neg (by omega)]
theorem fair_sound {l : List Ent} (h : ∀ e ∈ l, Sound e) : Fair l := by
  intro e he
  obtain ⟨h1, h2, h3⟩ := h e he
  refine ⟨?_, h2, h3⟩
  have hz : e.2.2.toList = [] → e.2.2.size ≤ 1100 := fun hx => by
    rw [empty_of hx]; decide
  unfold rightE at h1
  by_cases c0 : e.1 = 0
  · rw [if_pos c0] at h1
    by_cases d : e.2.1 = 0 ∧ e.2.2.toList = []
    · exact hz d.2
    · rw [if_neg d] at h1; omega
  rw [if_neg c0] at h1
  by_cases c1 : e.1 = 1
  · rw [if_pos c1] at h1
    by_cases d : (e.2.1 = 0 ∨ e.2.1 = 1) ∧ e.2.2.toList = []
    · exact hz d.2
    · rw [if_neg d] at h1; omega
  rw [if_neg c1] at h1
  by_cases c2 : e.1 = 2
  · rw [if_pos c2] at h1
    by_cases d : e.2.2.toList = []
    · exact hz d
    · rw [if_neg d] at h1; omega
  rw [if_neg c2] at h1
  by_cases c3 : e.1 = 3
  · rw [if_pos c3] at h1
    by_cases d : e.2.1 = 0
    · rw [if_pos d] at h1
      by_cases z : 1000 < e.2.2.size
      · rw [if_pos z] at h1; omega
      · omega
    · rw [if_neg d] at h1; omega
  · rw [if_neg c3] at h1; omega
theorem sameB_refl : ∀ l : List Ent, sameB l l = true
  | [] => rfl
  | e :: l => by simp [sameB, sameV, veq, sameB_refl l]

set_option maxHeartbeats 4000000 in
theorem codeDecodes_of (hdec : ∀ (s : ByteArray), s.size ≤ 3000 → ∀ w : World, Calls Try.prog 13 #[.string s] w fun e w' => ∃ v, e = .returned (.tuple #[v, .int .i64 (decAll s.data.toList).2]) ∧ OwnV w' w.heap.size v (decAll s.data.toList).1 ∧ Below w.heap.size w w')
    (s : ByteArray) (w : World) : Calls Try.prog 4 #[.string s] w fun e w' => e = .returned (.bool true) ∧ Below w.heap.size w w' := by
  by_cases hs : s.size ≤ 3000
  · obtain ⟨⟨l, er⟩, hd⟩ : ∃ d, d = decAll s.data.toList := ⟨_, rfl⟩
    have h1 := hdec s hs
    have h2 := refDecode_any s hs
    rw [← hd] at h1 h2
    simp only at h1 h2
    clear hdec
    have hself := sameB_refl l
    have hl60 : l.length ≤ 60 := by
      by_cases h0 : er = 0
      · subst h0
        have := (decAll_back hd.symm).2.1
        omega
      · have := decL_err s.data.toList.length [] s.data.toList (by show (decAll s.data.toList).2 ≠ 0; rw [← hd]; exact h0)
        have h : l = [] := by have h3 : (decAll s.data.toList).1 = [] := this; rw [← hd] at h3; exact h3
        rw [h]; simp
    by_cases h0 : er = 0
    · subst h0
      obtain ⟨hso, hl40, hen⟩ := decAll_back hd.symm
      have hee := encErr_sound hso hl40
      have hfa := fair_sound hso
      have hes : encS l = s := by
        rw [encS, if_pos hee, hen]
      clear hd hen hso
      go_enter Try.func4, Try.ntmps4
      go_wp2_with fail
      refine (h1 _).mono ?_
      rintro e w1 ⟨v1, rfl, o1, b1⟩
      go_wp2_with fail
      refine (h2 _).mono ?_
      rintro e w2 ⟨v2, rfl, o2, b2⟩
      have o1' := o1.keep b2
      replace b2 := btrans b1 b2
      go_wp2_with fail
      refine (same_any _ _ _ l l o1'.lies o2.lies hl60).mono ?_
      rintro e w3 ⟨rfl, b3⟩
      have o1'' := o1'.keep b3
      replace b3 := btrans b2 b3
      go_wp2_with fail
      refine (encode_any _ _ l o1''.lies hl60 hfa).mono ?_
      rintro e w4 ⟨rfl, b4⟩
      replace b4 := btrans b3 b4
      go_wp2_with fail
      refine (alive_any _).mono ?_
      rintro e w5 ⟨rfl, b5⟩
      go_wp2_with fail
      go_ret
      exact ⟨rfl, btrans b4 b5⟩
    · have hb1 : (er != 0) = true := by simp [h0]
      have hl0 : l = [] := by
        have := decL_err s.data.toList.length [] s.data.toList (by show (decAll s.data.toList).2 ≠ 0; rw [← hd]; exact h0)
        have h3 : (decAll s.data.toList).1 = [] := this
        rw [← hd] at h3; exact h3
      subst hl0
      clear hd h0
      go_enter Try.func4, Try.ntmps4
      go_wp2_with fail
      refine (h1 _).mono ?_
      rintro e w1 ⟨v1, rfl, o1, b1⟩
      obtain ⟨ao, cap, rfl⟩ := o1.shape
      go_wp2_with fail
      refine (h2 _).mono ?_
      rintro e w2 ⟨v2, rfl, o2, b2⟩
      have o1' := o1.keep b2
      replace b2 := btrans b1 b2
      go_wp2_with fail
      refine (same_any _ _ _ [] [] o1'.lies o2.lies hl60).mono ?_
      rintro e w3 ⟨rfl, b3⟩
      replace b3 := btrans b2 b3
      go_wp2_with fail
      refine (alive_any _).mono ?_
      rintro e w5 ⟨rfl, b5⟩
      go_wp2_with fail
      go_ret
      exact ⟨rfl, btrans b3 b5⟩
  · go_enter Try.func4, Try.ntmps4
    go_wp2_with fail
    refine (alive_any _).mono ?_
    rintro e w1 ⟨rfl, b1⟩
    go_wp2_with fail
    go_ret
    exact ⟨rfl, b1⟩

theorem codeDecodes_walk {P : Prop} (s : ByteArray) (_ : P) (w : World) : Calls Try.prog 4 #[.string s] w fun e w' => e = .returned (.bool true) ∧ Below w.heap.size w w' :=
  codeDecodes_of (fun s hs w => decode_any s (by omega) w) s w

end Go.Proofs.Ythbmcfbchomckaa
