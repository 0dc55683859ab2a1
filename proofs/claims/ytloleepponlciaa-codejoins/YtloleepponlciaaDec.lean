/- Contract of Decode at the bytes of a right row. -/
import Derived.Test.YtloleepponlciaaDecEnc
import Derived.Test.YtloleepponlciaaOwnV
namespace Go.Proofs.Ytloleepponlciaa
open Go.RowKit Go.Sort

theorem OwnV.shape {w : World} {base : Nat} {v : Value} {l : List Ent} (h : OwnV w base v l) : ∃ ao cap, v = .slice ao l.length cap := by
  obtain ⟨ao, cap, h, _⟩ := h.lies
  exact ⟨ao, cap, h⟩
/-- A text that is the bytes of a row. -/
def rowS (l : List Ent) : ByteArray := ⟨(encRow l).toArray⟩

/-- A text's length, for a measure. -/
def strLen : Value → Nat
  | .string s => s.size
  | _ => 0

set_option maxHeartbeats 4000000 in
theorem decode_enc (l : List Ent) (hl : ∀ e ∈ l, Sound e) (hf : Fair l) (h40 : l.length ≤ 40) (w : World) :
    Calls Try.prog 13 #[.string (rowS l)] w fun e w' => ∃ v, e = .returned (.tuple #[v, .int .i64 0]) ∧ OwnV w' w.heap.size v l ∧ Below w.heap.size w w' := by
  go_enter Try.func13, Try.ntmps13
  go_wp2
  go_loopw [0, 4, 5] (fun x u b wr => ∃ k : Nat, k ≤ l.length ∧ x = .string (rowS (l.drop k)) ∧ b = .bool false ∧ OwnV wr w.heap.size u (l.take k) ∧ Below w.heap.size w wr) (fun x _ _ _ => strLen x)
  case atStart => exact ⟨0, Nat.zero_le _, rfl, rfl, OwnV.nil _ _, Below.refl _ _⟩
  case round =>
    obtain ⟨k, hk, rfl, rfl, hr, hbel⟩ := hrel
    have hsz := hbel.size
    have htl : (l.take k).length = k := by simp; omega
    obtain ⟨ao, cap, rfl⟩ := hr.shape
    rw [htl] at hr
    by_cases hlt : k < l.length
    · have hne : (rowS (l.drop k)).toList.isEmpty = false := by unfold rowS; rw [ByteArray.toList_mk, List.isEmpty_eq_false_iff]; exact row_ne hlt
      have hdata : (rowS (l.drop k)).data.toList = encRow (l.drop k) := rfl
      have hlen : (rowS (l.drop k)).size ≤ 1000000 := by
        have h1 := encRow_length (l := l.drop k) fun e he => hf e (List.mem_of_mem_drop he)
        show (encRow (l.drop k)).toArray.size ≤ _
        simp at h1 ⊢; omega
      have hpos : 0 < (rowS (l.drop k)).size := by
        show 0 < (encRow (l.drop k)).toArray.size
        have := List.length_pos_iff.2 (row_ne hlt)
        simpa using this
      have hc1 := takeValue_any (rowS (l.drop k)) hlen hpos
      rw [hdata, take_row hlt hl] at hc1
      have HS : Hid ((rowS (l.drop (k + 1))).size < (rowS (l.drop k)).size) := by
        show (encRow (l.drop (k + 1))).toArray.size < (encRow (l.drop k)).toArray.size
        rw [List.drop_eq_getElem_cons hlt]
        show _ < (encV l[k] ++ encRow (l.drop (k + 1))).toArray.size
        have := List.length_pos_iff.2 (encV_ne l[k])
        simp; omega
      have HT : Hid (l.take (k + 1) = l.take k ++ [l[k]]) := List.take_succ_eq_append_getElem hlt
      have hrt := (hl _ (List.getElem_mem hlt)).1
      generalize l[k] = en at hc1 HT hrt
      obtain ⟨t, n, s⟩ := en
      simp only at hrt
      simp only [valRes] at hc1
      have hk40 : ((k : Int) == 40) = false := by simp; omega
      clear hdata hlen hpos
      go_wp2_with (first
        | (go_at_call 24; refine (hc1 _).mono ?_; rintro e w1 ⟨rfl, hb1⟩; have hsz1 := hb1.size)
        | (go_at_call 20; refine (right_any t n s _).mono ?_; rintro e w2 ⟨rfl, hb2⟩; have pa := (At.alloc w1 t n s).keep hb2; have pa1 := pa.1; have pa2 := pa.2.1; have pa3 := pa.2.2; have hb3 := bnew hb2; have hsz2 := hb3.size)
        | (at_builtin; refine wpList_pushV (.tmp 17) (.tmp 19) rfl rfl rfl (hr.keep (btrans hb1 hb3)) (by omega) [(t, n, s)] rfl rfl (by first | rfl | simp) (by simp; omega) ?_; intro v3 w3 hr3 hbe3))
      go_roundw
      case rel => exact ⟨k + 1, by omega, rfl, rfl, by rw [HT.out]; exact hr3, ((hbel.trans ((btrans hb1 hb3).mono hsz)).trans hbe3)⟩
      case measure => exact HS.out
    · have hkk : k = l.length := by omega
      subst hkk
      have hne : (rowS ([] : List Ent)).toList.isEmpty = true := by show (ByteArray.mk (([] : List UInt8)).toArray).toList.isEmpty = true; rw [ByteArray.toList_mk]; rfl
      rw [List.take_length] at hr
      clear htl
      have hr' : OwnV wr w.heap.size (.slice ao (l.take l.length).length cap) l := by rw [List.take_length]; exact hr
      go_wp2_with fail
      go_ret2
      exact ⟨_, rfl, hr', hbel⟩

end Go.Proofs.Ytloleepponlciaa
