/- The walk of CodeBack: true, whatever row. -/
import Derived.Test.YthbmcfbchomckaaDec
import Derived.Test.YthbmcfbchomckaaSameRow
import Derived.Test.YthbmcfbchomckaaKey
import Derived.Test.YthbmcfbchomckaaFew
namespace Go.Proofs.Ythbmcfbchomckaa
open Go.RowKit Go.Sort

theorem sameB_self : ∀ l : List Ent, sameB l l = true
  | [] => rfl
  | e :: l => by simp [sameB, sameV, veq, sameB_self l]
theorem encS_row {l : List Ent} (h : encErr l = 0) : encS l = rowS l := by rw [encS, if_pos h]; rfl
theorem encErr_len {l : List Ent} (h : encErr l = 0) : l.length ≤ 40 := by
  unfold encErr at h
  by_cases c : rowErr l = 0
  · rw [if_pos c] at h
    by_cases d : 40 < l.length
    · rw [if_pos d] at h; omega
    · omega
  · rw [if_neg c] at h; exact absurd h c

set_option maxHeartbeats 4000000 in
theorem codeBack_any (w : World) (v : Value) (l : List Ent) (hl : Lies w v l) (hlx : l.length ≤ maxLen) (hin : ∀ e ∈ l, inR e.1 ∧ inR e.2.1) :
    Calls Try.prog 5 #[v] w fun e w' => e = .returned (.bool true) ∧ Below w.heap.size w w' := by
  by_cases hfew : fewB l = true
  · obtain ⟨hf, hlen⟩ := fair_of_few hfew hin
    clear hin
    by_cases h1 : encErr l = 0
    · have h1' : (encErr l != 0) = false := by simp [h1]
      have hs := encS_row h1
      have hso := sound_of h1 hf
      have h40 := encErr_len h1
      have hse := sameB_self l
      clear h1
      go_enter Try.func5, Try.ntmps5
      go_wp2_with fail
      refine (few_any _ _ l hl hlx).mono ?_
      rintro e w1 ⟨rfl, hw1⟩
      subst hw1
      go_wp2_with fail
      refine (encode_any _ _ l hl hlen hf).mono ?_
      rintro e w2 ⟨rfl, b2⟩
      go_wp2_with fail
      refine (decode_enc l hso hf h40 _).mono ?_
      rintro e w3 ⟨u, rfl, ho, b3⟩
      replace b3 := btrans b2 b3
      go_wp2_with fail
      refine (same_any _ _ _ l l ho.lies (hl.keep b3) hlen).mono ?_
      rintro e w4 ⟨rfl, b4⟩
      replace b4 := btrans b3 b4
      go_wp2_with fail
      refine (alive_any _).mono ?_
      rintro e w5 ⟨rfl, b5⟩
      go_wp2_with fail
      go_ret
      exact ⟨rfl, btrans b4 b5⟩
    · have h1' : (encErr l != 0) = true := by simp [h1]
      have hs : encS l = E0 := by rw [encS, if_neg h1]
      clear h1
      go_enter Try.func5, Try.ntmps5
      go_wp2_with fail
      refine (few_any _ _ l hl hlx).mono ?_
      rintro e w1 ⟨rfl, hw1⟩
      subst hw1
      go_wp2_with fail
      refine (encode_any _ _ l hl hlen hf).mono ?_
      rintro e w2 ⟨rfl, b2⟩
      go_wp2_with fail
      refine (alive_any _).mono ?_
      rintro e w3 ⟨rfl, b3⟩
      go_wp2_with fail
      go_ret
      exact ⟨rfl, btrans b2 b3⟩
  · have hfew' : fewB l = false := by simpa using hfew
    clear hfew
    go_enter Try.func5, Try.ntmps5
    go_wp2_with fail
    refine (few_any _ _ l hl hlx).mono ?_
    rintro e w1 ⟨rfl, hw1⟩
    subst hw1
    go_wp2_with fail
    refine (alive_any _).mono ?_
    rintro e w3 ⟨rfl, b3⟩
    go_wp2_with fail
    go_ret
    exact ⟨rfl, b3⟩

theorem back_law2 (v : Value) (l : List Ent) {w : World} (hl : Lies w v l) (hm : l.length ≤ maxLen) (hin : ∀ e ∈ l, inR e.1 ∧ inR e.2.1) (_ : World) :
    Calls Try.prog 5 #[v] w fun e w' => e = .returned (.bool true) ∧ Below w.heap.size w w' := codeBack_any w v l hl hm hin

end Go.Proofs.Ythbmcfbchomckaa
