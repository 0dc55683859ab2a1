/- Contract of the document's own Decode, at any text. -/
import Derived.Test.YthbmcfbchomckaaRefNext2
import Derived.Test.YthbmcfbchomckaaDec
namespace Go.Proofs.Ythbmcfbchomckaa
open Go.RowKit Go.Sort

theorem takeV_rest {S : ByteArray} {p : Ent × List UInt8} (h : takeV S.data.toList = some p) : behind S (S.size - p.2.length) = ⟨p.2.toArray⟩ := by
  have hb := (takeV_back h).2
  have hl : S.data.toList.length = S.size := by simp
  unfold behind
  congr 1
  have : S.size - p.2.length = (encV p.1).length := by rw [← hl, ← hb, List.length_append]; omega
  rw [this, ← hb, List.drop_left]

set_option maxHeartbeats 4000000 in
theorem refDecode_any (s : ByteArray) (hs : s.size ≤ 3000) (w : World) :
    Calls Try.prog 14 #[.string s] w fun e w' => ∃ v, e = .returned (.tuple #[v, .int .i64 (decAll s.data.toList).2]) ∧ OwnV w' w.heap.size v (decAll s.data.toList).1 ∧ Below w.heap.size w w' := by
  go_enter Try.func14, Try.ntmps14
  go_wp2
  go_loopw [0, 4] (fun x u wr => ∃ (f : Nat) (acc : List Ent) (S : ByteArray), S.size ≤ 3000 ∧ S.size ≤ f ∧ acc.length ≤ 40 ∧ x = .string S ∧ OwnV wr w.heap.size u acc ∧ decAll s.data.toList = decL f acc S.data.toList ∧ Below w.heap.size w wr) (fun x _ _ => strLen x)
  case atStart => exact ⟨s.size, [], s, hs, Nat.le_refl _, by simp, rfl, OwnV.nil _ _, by unfold decAll; simp, Below.refl _ _⟩
  case round =>
    obtain ⟨f, acc, S, hS, hf, ha, rfl, hr, hd, hbel⟩ := hrel
    have hsz := hbel.size
    have HD : Hid (decAll s.data.toList = decL f acc S.data.toList) := hd
    clear hd
    obtain ⟨ao, cap, rfl⟩ := hr.shape
    by_cases h0 : 0 < S.size
    · have hne : S.data.toList ≠ [] := fun e => by
        have : S.data.toList.length = S.size := by simp
        rw [e] at this; simp at this; omega
      have HF : Hid (decL f acc S.data.toList = match takeV S.data.toList with | none => ([], 10) | some p => if tooLong p.1 = true then ([], 8) else if 40 ≤ acc.length then ([], 8) else decL (f - 1) (acc ++ [p.1]) p.2) := decL_step hne (by simpa using hf)
      have hc1 := next_any S (by omega) h0
      cases hq : takeV S.data.toList with
      | none =>
        rw [hq] at hc1 HF
        have HX : Hid (decAll s.data.toList = ([], 10)) := by show decAll _ = _; rw [HD.out, HF.out]
        simp only [nextRes] at hc1
        clear hq hne
        go_wp2_with (go_at_call 25; refine (hc1 _).mono ?_; rintro e w1 ⟨rfl, hb1⟩)
        go_ret2
        rw [HX.out]
        exact ⟨_, rfl, OwnV.nil _ _, btrans hbel (btrans hb1 ((Below.refl _ _).alloc (Nat.le_refl _) _))⟩
      | some p =>
        have hrest := takeV_rest hq
        have hshort := takeV_shorter hq
        rw [hq] at hc1 HF
        obtain ⟨⟨t, n, z⟩, r⟩ := p
        simp only [nextRes] at hc1
        by_cases ht : tooLong (t, n, z) = true
        · have HX : Hid (decAll s.data.toList = ([], 8)) := by show decAll _ = _; rw [HD.out, HF.out]; simp [ht]
          simp only [ht, if_true] at hc1
          clear hq hne ht hrest hshort
          go_wp2_with (go_at_call 25; refine (hc1 _).mono ?_; rintro e w1 ⟨rfl, hb1⟩)
          go_ret2
          rw [HX.out]
          exact ⟨_, rfl, OwnV.nil _ _, btrans hbel (btrans hb1 ((Below.refl _ _).alloc (Nat.le_refl _) _))⟩
        · rw [if_neg ht] at hc1
          by_cases h40 : 40 ≤ acc.length
          · have HX : Hid (decAll s.data.toList = ([], 8)) := by show decAll _ = _; rw [HD.out, HF.out]; simp [ht, h40]
            clear hq hne ht hrest hshort
            go_wp2_with (go_at_call 25; refine (hc1 _).mono ?_; rintro e w1 ⟨rfl, hb1⟩)
            go_ret2
            rw [HX.out]
            exact ⟨_, rfl, OwnV.nil _ _, btrans hbel (btrans hb1 ((Below.refl _ _).alloc (Nat.le_refl _) _))⟩
          · have HX : Hid (decAll s.data.toList = decL (f - 1) (acc ++ [(t, n, z)]) r) := by show decAll _ = _; rw [HD.out, HF.out]; simp [ht, h40]
            have hSl : S.data.toList.length = S.size := by simp
            simp only at hshort hrest
            rw [hSl] at hshort
            have hex := extract_behind S (S.size - r.length)
            rw [hrest] at hex
            have hj1 : S.size - r.length ≤ S.size := by omega
            generalize S.size - r.length = j at hc1 hex hj1
            have HR : Hid (r.length < S.size) := hshort
            clear hq hne ht hrest hSl hshort
            go_wp2_with (first
              | (go_at_call 25; refine (hc1 _).mono ?_; rintro e w1 ⟨rfl, hb1⟩; have hb3 := bnew (o := .cells #[.int .i64 t, .int .i64 n, .string z] 33) (Below.refl _ (w1.alloc (.cells #[.int .i64 t, .int .i64 n, .string z] 33))); have hsz1 := hb1.size)
              | (at_builtin; refine wpList_pushV (.tmp 23) (.tmp 25) rfl rfl rfl (hr.keep (btrans hb1 hb3)) (by simp; omega) [(t, n, z)] rfl rfl (by first | rfl | simp) (by simp; omega) ?_; intro v3 w3 hr3 hbe3))
            have hrs : (ByteArray.mk r.toArray).size = r.length := by show r.toArray.size = _; simp
            have hrl := HR.out
            go_roundw
            case rel => exact ⟨f - 1, acc ++ [(t, n, z)], ⟨r.toArray⟩, by rw [hrs]; omega, by rw [hrs]; omega, by simp; omega, rfl, hr3, HX.out, (hbel.trans ((btrans hb1 hb3).mono hsz)).trans hbe3⟩
            case measure => show (ByteArray.mk r.toArray).size < S.size; rw [hrs]; exact hrl
    · have hS0 : S.data.toList = [] := by
        have : S.data.toList.length = S.size := by simp
        exact List.eq_nil_of_length_eq_zero (by omega)
      have HX : Hid (decAll s.data.toList = (acc, 0)) := by show decAll _ = _; rw [HD.out, hS0]; cases f <;> rfl
      clear hS0
      go_wp2_with fail
      go_ret2
      rw [HX.out]
      exact ⟨_, rfl, hr, hbel⟩

end Go.Proofs.Ythbmcfbchomckaa
