/- Contract of how the document tells a value. -/
import Derived.Test.YtcnbbmgclphfdaaDoorRpValue
namespace Go.Proofs.YtcnbbmgclphfdaaDoor
open Go.RowKit Go.Sort

abbrev hexA : ByteArray := ⟨#[48, 49, 50, 51, 52, 53, 54, 55, 56, 57, 97, 98, 99, 100, 101, 102]⟩
theorem drew_below {B : Nat} {a w : World} (h : Below B a w) : Below B a w.drew := h.trans ⟨rfl, rfl, rfl, Nat.le_refl _, fun _ _ => rfl⟩
theorem hexA_at (k : Nat) (h : k < 16) : hexA[k]'(by show k < 16; exact h) = hexD k := by
  have : k = 0 ∨ k = 1 ∨ k = 2 ∨ k = 3 ∨ k = 4 ∨ k = 5 ∨ k = 6 ∨ k = 7 ∨ k = 8 ∨ k = 9 ∨ k = 10 ∨ k = 11 ∨ k = 12 ∨ k = 13 ∨ k = 14 ∨ k = 15 := by omega
  rcases this with rfl | rfl | rfl | rfl | rfl | rfl | rfl | rfl | rfl | rfl | rfl | rfl | rfl | rfl | rfl | rfl <;> rfl

set_option maxHeartbeats 4000000 in
set_option maxRecDepth 100000 in
theorem refQuote (w : World) (n : Int) (s : ByteArray) (hs : s.size ≤ 1000000) : Calls Tryd.prog 12 #[V 3 n s] w fun e w' => e = .returned (.string (quoteB s)) ∧ Below w.heap.size w w' := by
  obtain ⟨W0, hW0⟩ : ∃ W0, W0 = w.alloc (.cells #[.int .i64 3, .int .i64 n, .string s] 28) := ⟨_, rfl⟩
  have b0 : Below w.heap.size w W0 := by rw [hW0]; exact (Below.refl _ _).alloc (Nat.le_refl _) _
  have hs0 : W0.heap.size = w.heap.size + 1 := by rw [hW0]; simp
  have c2 : W0.cell? ⟨w.heap.size, 2, none⟩ = some (.string s) := by rw [hW0]; simp [go_sem]
  have hl0 : OwnB (W0.alloc (.cells #[.int .u8 39] 5)) (w.heap.size + 1) (.slice (some ⟨w.heap.size + 1, 0, none⟩) 1 1) [39] := OwnB.lit W0 [39] rfl (by omega) (by omega) (by decide)
  have b1 : Below (w.heap.size + 1) W0 (W0.alloc (.cells #[.int .u8 39] 5)) := (Below.refl _ _).alloc (by omega) _
  go_enter Tryd.func12, Tryd.ntmps12
  go_wp2_with fail
  rw [← hW0]
  clear hW0
  generalize W0.alloc (.cells #[.int .u8 39] 5) = W1 at hl0 b1 ⊢
  go_loopw [3, 4] (fun z i wr => ∃ j : Nat, j ≤ s.size ∧ i = .int .i64 j ∧ OwnB wr (w.heap.size + 1) z (39 :: spellsL (s.data.toList.take j)) ∧ Below (w.heap.size + 1) W0 wr) (fun _ i _ => s.size - (intOf i).toNat)
  case atStart => exact ⟨0, Nat.zero_le _, rfl, hl0, b1⟩
  case round =>
    clear hl0 b1
    obtain ⟨j, hj, rfl, ho, hbel⟩ := hrel
    have cs : wr.cell? ⟨w.heap.size, 2, none⟩ = some (.string s) := (hbel.cell (p := ⟨w.heap.size, 2, none⟩) (by simp)).trans c2
    have hsz : w.heap.size + 1 ≤ wr.heap.size := by have := hbel.size; omega
    have hlen := spellsL_len (s.data.toList.take j)
    rw [List.length_take] at hlen
    have hl1 : (39 :: spellsL (s.data.toList.take j)).length ≤ 3000001 := by simp; omega
    clear hlen c2
    by_cases h : j < s.size
    · have HT : Hid (39 :: spellsL (s.data.toList.take (j + 1)) = (39 :: spellsL (s.data.toList.take j)) ++ spellL s[j]) := by
        show 39 :: spellsL (s.data.toList.take (j + 1)) = _
        rw [byte_take' s h, spellsL_snoc]; rfl
      generalize 39 :: spellsL (s.data.toList.take j) = L at *
      by_cases hx : escB s[j] = true
      · have h39 : s[j].toNat ≠ 39 := by
          intro e
          simp [escB, e] at hx
        have hx' : s[j].toNat < 32 ∨ s[j].toNat = 92 := by simpa [escB] using hx
        have HS : Hid (spellL s[j] = [92, hexD (s[j].toNat / 16), hexD (s[j].toNat % 16)]) := by
          show spellL s[j] = _
          unfold spellL; rw [if_neg h39, if_pos hx]
        have hlt : s[j].toNat < 256 := s[j].toNat_lt
        clear hx h39
        have hk1 : s[j].toNat / 16 < 16 := by omega
        have hk2 : s[j].toNat % 16 < 16 := by omega
        have HH : Hid ([92, hexD (s[j].toNat / 16), hexD (s[j].toNat % 16)] = [92, hexA[s[j].toNat / 16]'(by show _ < 16; omega), hexA[s[j].toNat % 16]'(by show _ < 16; omega)]) := by
          show [92, hexD (s[j].toNat / 16), hexD (s[j].toNat % 16)] = _
          rw [hexA_at _ hk1, hexA_at _ hk2]
        have e1 : IntKind.i64.wrap ((s[j].toNat : Int)) = (s[j].toNat : Int) := by rw [IntKind.wrap_i64]; omega
        have e2 : IntKind.i64.wrap ((s[j].toNat : Int) / 16) = ((s[j].toNat / 16 : Nat) : Int) := by
          rw [show (s[j].toNat : Int) / 16 = ((s[j].toNat / 16 : Nat) : Int) from rfl, IntKind.wrap_i64]; omega
        have e3 : (s[j].toNat : Int).tmod 16 = ((s[j].toNat % 16 : Nat) : Int) := rfl
        have hi1 : ((s[j].toNat / 16 : Nat) : Int) < 16 := by omega
        have hi2 : ((s[j].toNat % 16 : Nat) : Int) < 16 := by omega
        by_cases h32 : s[j].toNat < 32
        · have q0 : decide ((s[j].toNat : Int) < 32) = true := by simp; omega
          have q3 : (s[j].toNat : Int) < 32 := by omega
          go_wp2_with fail
          generalize s[j].toNat / 16 = k1 at *
          generalize s[j].toNat % 16 = k2 at *
          generalize s[j].toNat = x at *
          go_region_law (refine step_push (.tmp 39) (.tmp 48) rfl rfl rfl ((ho.alloc _).drew) (by simp; omega) [92, hexA[k1]'(by show _ < 16; omega), hexA[k2]'(by show _ < 16; omega)] rfl (heap_alloc_new wr _) rfl (by simp; omega) ?_; intro v1 w1 ho1 hb1 _)
          all_goals
            go_wp2_with fail
            go_roundw
            case rel => exact ⟨j + 1, by omega, by go_num, by rw [HT.out, HS.out, HH.out]; exact ho1, (drew_below (hbel.alloc hsz _)).trans hb1⟩
            case measure => simp [intOf]; omega
        · have q0 : decide ((s[j].toNat : Int) < 32) = false := by simp; omega
          have q3 : 32 ≤ (s[j].toNat : Int) := by omega
          have q1 : ((s[j].toNat : Int) == 92) = true := by rw [beq_iff_eq]; omega
          go_wp2_with fail
          generalize s[j].toNat / 16 = k1 at *
          generalize s[j].toNat % 16 = k2 at *
          generalize s[j].toNat = x at *
          go_region_law (refine step_push (.tmp 39) (.tmp 48) rfl rfl rfl ((ho.alloc _).drew) (by simp; omega) [92, hexA[k1]'(by show _ < 16; omega), hexA[k2]'(by show _ < 16; omega)] rfl (heap_alloc_new wr _) rfl (by simp; omega) ?_; intro v1 w1 ho1 hb1 _)
          all_goals
            go_wp2_with fail
            go_roundw
            case rel => exact ⟨j + 1, by omega, by go_num, by rw [HT.out, HS.out, HH.out]; exact ho1, (drew_below (hbel.alloc hsz _)).trans hb1⟩
            case measure => simp [intOf]; omega
      · by_cases h39 : s[j].toNat = 39
        · have e39 : s[j] = 39 := UInt8.toNat_inj.1 h39
          have HS : Hid (spellL s[j] = [39] ++ [s[j]]) := by
            show spellL s[j] = _
            rw [e39]; rfl
          have q0 : decide ((s[j].toNat : Int) < 32) = false := by rw [h39]; rfl
          have q1 : ((s[j].toNat : Int) == 92) = false := by rw [h39]; rfl
          have q2 : ((s[j].toNat : Int) == 39) = true := by rw [h39]; rfl
          have q3 : 32 ≤ (s[j].toNat : Int) := by rw [h39]; decide
          clear hx h39 e39
          go_wp2_with (first
            | (at_builtin; refine wpList_push (.tmp 52) (.tmp 53) rfl rfl rfl ho hsz [39] rfl rfl (by first | rfl | simp) (by simp; omega) ?_; intro v1 w1 ho1 hb1; have hsz1 : w.heap.size + 1 ≤ w1.heap.size := Nat.le_trans hsz hb1.size)
            | (at_builtin; refine wpList_push (.tmp 55) (.tmp 57) rfl rfl rfl ho1 hsz1 [s[j]] rfl rfl (by first | rfl | simp) (by simp; omega) ?_; intro v2 w2 ho2 hb2))
          go_roundw
          case rel => exact ⟨j + 1, by omega, by go_num, by rw [HT.out, HS.out, ← List.append_assoc]; exact ho2, (hbel.trans hb1).trans hb2⟩
          case measure => simp [intOf]; omega
        · have HS : Hid (spellL s[j] = [s[j]]) := by
            show spellL s[j] = _
            unfold spellL; rw [if_neg h39, if_neg hx]
          have hx' : ¬ s[j].toNat < 32 ∧ ¬ s[j].toNat = 92 := by simpa [escB] using hx
          have q0 : decide ((s[j].toNat : Int) < 32) = false := by simp; omega
          have q1 : ((s[j].toNat : Int) == 92) = false := by rw [beq_eq_false_iff_ne]; omega
          have q2 : ((s[j].toNat : Int) == 39) = false := by rw [beq_eq_false_iff_ne]; omega
          have q3 : 32 ≤ (s[j].toNat : Int) := by omega
          clear hx' hx h39
          go_wp2_with (at_builtin; refine wpList_push (.tmp 55) (.tmp 57) rfl rfl rfl ho hsz [s[j]] rfl rfl (by first | rfl | simp) (by simp; omega) ?_; intro v1 w1 ho1 hb1)
          go_roundw
          case rel => exact ⟨j + 1, by omega, by go_num, by rw [HT.out, HS.out]; exact ho1, hbel.trans hb1⟩
          case measure => simp [intOf]; omega
    · have hjs : j = s.size := by omega
      subst hjs
      have HQ : Hid (quoteB s = ⟨((39 :: spellsL (s.data.toList.take s.size)) ++ [39]).toArray⟩) := by
        show quoteB s = _
        rw [List.take_of_length_le (by simp)]; rfl
      generalize 39 :: spellsL (s.data.toList.take s.size) = L at *
      go_wp2_with (at_builtin; refine wpList_push (.tmp 59) (.tmp 60) rfl rfl rfl ho hsz [39] rfl rfl (by first | rfl | simp) (by simp; omega) ?_; intro v1 w1 ho1 hb1; have hcv := run_string ho1)
      go_ret
      exact ⟨by rw [HQ.out]; rfl, b0.trans ((hbel.trans hb1).mono (by omega))⟩

end Go.Proofs.YtcnbbmgclphfdaaDoor
