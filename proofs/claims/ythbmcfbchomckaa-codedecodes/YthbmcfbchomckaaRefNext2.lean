/- Contract of the document's own next, at every first byte. -/
import Derived.Test.YthbmcfbchomckaaRefNext
namespace Go.Proofs.Ythbmcfbchomckaa
open Go.RowKit Go.Sort

theorem OwnB.shape {w : World} {base : Nat} {v : Value} {bs : List UInt8} (h : OwnB w base v bs) : ∃ ao cap, v = .slice ao bs.length cap := by
  rcases h.2 with ⟨rfl, h0⟩ | ⟨g, cap, cur, rfl, _⟩
  · exact ⟨none, 0, by rw [h0]⟩
  · exact ⟨_, _, rfl⟩
theorem scanT_ne {x : UInt8} (h : ¬ x = 0) (r : List UInt8) : scanT (x :: r) = (scanT r).map (fun p => (x :: p.1, p.2)) := by
  cases r with
  | nil => rfl
  | cons b r => rw [scanT, if_neg h]
theorem scanT_short (x : UInt8) : scanT [x] = none := rfl
theorem tooLong_text (t : List UInt8) : tooLong (3, 0, ⟨t.toArray⟩) = decide (1000 < t.length) := by simp [tooLong, ByteArray.size]

set_option maxHeartbeats 4000000 in
theorem next_text (s : ByteArray) (hs : s.size ≤ 1000000) (h0 : 0 < s.size) (h5 : s[0] = 5) (w : World) :
    Calls Try.prog 25 #[.string s] w fun e w' => e = .returned (nextRes s.size (takeV s.data.toList)) ∧ Below w.heap.size w w' := by
  have HV : Hid (takeV s.data.toList = (scanT (s.data.toList.drop 1)).map (fun p => ((3, 0, ⟨p.1.toArray⟩), p.2))) := by
    show takeV _ = _
    have := drop_succ s 0 h0
    rw [List.drop_zero] at this
    rw [this, h5, takeV_five]
    rfl
  have t1 : ((s[0].toNat : Int) == 1) = false := by rw [h5]; rfl
  have t2 : ((s[0].toNat : Int) == 2) = false := by rw [h5]; rfl
  have t3 : ((s[0].toNat : Int) == 3) = false := by rw [h5]; rfl
  have t4 : ((s[0].toNat : Int) == 4) = false := by rw [h5]; rfl
  have t5 : ((s[0].toNat : Int) != 5) = false := by rw [h5]; rfl
  have hb0 : Below w.heap.size w (w.alloc (.cells #[.int .i64 0, .int .i64 0, .string E0] 33)) := (Below.refl _ _).alloc (Nat.le_refl _) _
  have hW0 : (w.alloc (.cells #[.int .i64 0, .int .i64 0, .string E0] 33)).heap.size = w.heap.size + 1 := by simp
  clear h5
  go_enter Try.func25, Try.ntmps25
  go_wp2
  go_loopw [7, 8] (fun u i wr => ∃ (k : Nat) (acc : List UInt8), k ≤ s.size ∧ i = .int .i64 k ∧ OwnB wr (w.heap.size + 1) u acc ∧ acc.length ≤ k ∧ scanT (s.data.toList.drop 1) = went acc (scanT (s.data.toList.drop k)) ∧
      Below (w.heap.size + 1) (w.alloc (.cells #[.int .i64 0, .int .i64 0, .string E0] 33)) wr) (fun _ i _ => s.size - (intOf i).toNat)
  case atStart => exact ⟨1, [], by omega, rfl, OwnB.nil _ _, Nat.zero_le _, (went_nil _).symm, Below.refl _ _⟩
  case round =>
    obtain ⟨k, acc, hk, rfl, hr, hal, hsc, hbel⟩ := hrel
    have hsz : w.heap.size + 1 ≤ wr.heap.size := by have := hbel.size; omega
    have HS : Hid (scanT (s.data.toList.drop 1) = went acc (scanT (s.data.toList.drop k))) := hsc
    have hq : (∀ o, wr.cell? ⟨w.heap.size, o, none⟩ = (w.alloc (.cells #[.int .i64 0, .int .i64 0, .string E0] 33)).cell? ⟨w.heap.size, o, none⟩) ∧ (∀ o, wr.frozen? ⟨w.heap.size, o, none⟩ = (w.alloc (.cells #[.int .i64 0, .int .i64 0, .string E0] 33)).frozen? ⟨w.heap.size, o, none⟩) :=
      ⟨fun o => hbel.cell (by simp), fun o => hbel.frozen (by simp)⟩
    clear hsc
    obtain ⟨ao, cap, rfl⟩ := hr.shape
    by_cases hlt : k < s.size
    · have HD : Hid (s.data.toList.drop k = s[k] :: s.data.toList.drop (k + 1)) := drop_succ s k hlt
      by_cases h00 : s[k] = 0
      · have t0 : ((s[k].toNat : Int) != 0) = false := by rw [h00]; rfl
        have H0 : Hid (s[k] = 0) := h00
        clear h00
        by_cases hl1 : k + 1 < s.size
        · have HD2 : Hid (s.data.toList.drop (k + 1) = s[k + 1] :: s.data.toList.drop (k + 2)) := drop_succ s (k + 1) hl1
          by_cases h1 : s[k + 1] = 255
          · have a1 : ((s[k + 1].toNat : Int) != 0) = true := by rw [h1]; rfl
            have a2 : ((s[k + 1].toNat : Int) != 255) = false := by rw [h1]; rfl
            have a3 : ((s[k + 1].toNat : Int) == 0) = false := by rw [h1]; rfl
            have H1 : Hid (s[k + 1] = 255) := h1
            clear h1 hb0 hW0 hq
            go_wp2_with (at_builtin; refine wpList_push (.tmp 101) (.tmp 102) rfl rfl rfl hr (by omega) [0] rfl rfl (by first | rfl | simp) (by simp; omega) ?_; intro v1 w1 hr1 hb1)
            go_roundw
            case rel => exact ⟨k + 2, acc ++ [0], by omega, by go_num, hr1, by simp; omega, by rw [HS.out, HD.out, HD2.out, scanT, if_pos H0.out, if_pos H1.out, went_step], hbel.trans hb1⟩
            case measure => simp [intOf]; omega
          · have a2 : ((s[k + 1].toNat : Int) != 255) = true := by have h : s[k + 1].toNat ≠ 255 := fun e => h1 (UInt8.toNat_inj.1 e)
                                                                   simp; omega
            have H1 : Hid (¬ s[k + 1] = 255) := h1
            clear h1
            by_cases h2 : s[k + 1] = 0
            · have a1 : ((s[k + 1].toNat : Int) != 0) = false := by rw [h2]; rfl
              have a3 : ((s[k + 1].toNat : Int) == 0) = true := by rw [h2]; rfl
              have H2 : Hid (s[k + 1] = 0) := h2
              clear h2
              have HT : Hid (scanT (s.data.toList.drop 1) = some (acc, s.data.toList.drop (k + 2))) := by
                show scanT _ = _
                rw [HS.out, HD.out, HD2.out, scanT, if_pos H0.out, if_neg H1.out, if_pos H2.out]
                simp [went]
              by_cases hm : 1000 < acc.length
              · go_wp2_with fail
                exact bodyPost_ret (v := .tuple #[V 0 0 E0, .int .i64 0, .int .i64 8]) (by simp [results, Try.results25, go_sem, hq]) rfl ⟨by rw [HV.out, HT.out]; simp [nextRes, tooLong_text, hm], bset3 (hb0.trans (hbel.mono (Nat.le_succ _))) (Nat.le_refl _) _ _ _⟩
              · have hcv := run_string hr
                go_wp2_with (go_at_call 19; refine (refText_any _ _).mono ?_; rintro e w1 ⟨rfl, hb1⟩; have hq1 : (∀ o, w1.cell? ⟨w.heap.size, o, none⟩ = wr.cell? ⟨w.heap.size, o, none⟩) ∧ (∀ o, w1.frozen? ⟨w.heap.size, o, none⟩ = wr.frozen? ⟨w.heap.size, o, none⟩) := ⟨fun o => hb1.cell (show w.heap.size < wr.heap.size by omega), fun o => hb1.frozen (show w.heap.size < wr.heap.size by omega)⟩)
                have hn : (s.size - (s.data.toList.drop (k + 2)).length : Nat) = k + 2 := by simp; omega
                exact bodyPost_ret (v := .tuple #[V 3 0 ⟨acc.toArray⟩, .int .i64 ((k : Int) + 2), .int .i64 0]) (by simp [results, Try.results25, go_sem, hq1, hq]) rfl ⟨by rw [HV.out, HT.out]; simp only [Option.map_some, nextRes, tooLong_text, hm, hn]; simp, bset3 (hb0.trans ((hbel.mono (Nat.le_succ _)).trans (hb1.mono (by omega)))) (Nat.le_refl _) _ _ _⟩
            · have a1 : ((s[k + 1].toNat : Int) != 0) = true := by have h : s[k + 1].toNat ≠ 0 := fun e => h2 (UInt8.toNat_inj.1 e)
                                                                   simp; omega
              have H2 : Hid (¬ s[k + 1] = 0) := h2
              clear h2
              go_wp2_with fail
              exact bodyPost_ret (v := .tuple #[V 0 0 E0, .int .i64 0, .int .i64 10]) (by simp [results, Try.results25, go_sem, hq]) rfl ⟨by rw [HV.out, HS.out, HD.out, HD2.out, scanT, if_pos H0.out, if_neg H1.out, if_neg H2.out]; rfl, bset3 (hb0.trans (hbel.mono (Nat.le_succ _))) (Nat.le_refl _) _ _ _⟩
        · have HE : Hid (s.data.toList.drop (k + 1) = []) := List.drop_eq_nil_of_le (by simp; omega)
          go_wp2_with fail
          exact bodyPost_ret (v := .tuple #[V 0 0 E0, .int .i64 0, .int .i64 10]) (by simp [results, Try.results25, go_sem, hq]) rfl ⟨by rw [HV.out, HS.out, HD.out, HE.out, scanT_short]; rfl, bset3 (hb0.trans (hbel.mono (Nat.le_succ _))) (Nat.le_refl _) _ _ _⟩
      · have t0 : ((s[k].toNat : Int) != 0) = true := by have h : s[k].toNat ≠ 0 := fun e => h00 (UInt8.toNat_inj.1 e)
                                                         simp; omega
        have H0 : Hid (¬ s[k] = 0) := h00
        clear h00 hb0 hW0 hq
        go_wp2_with (at_builtin; refine wpList_push (.tmp 61) (.tmp 65) rfl rfl rfl hr (by omega) [s[k]] rfl rfl (by first | rfl | simp) (by simp; omega) ?_; intro v1 w1 hr1 hb1)
        go_roundw
        case rel => exact ⟨k + 1, acc ++ [s[k]], by omega, by go_num, hr1, by simp; omega, by rw [HS.out, HD.out, scanT_ne H0.out, went_step], hbel.trans hb1⟩
        case measure => simp [intOf]; omega
    · have HE : Hid (s.data.toList.drop k = []) := List.drop_eq_nil_of_le (by simp; omega)
      go_wp2_with fail
      exact bodyPost_ret (v := .tuple #[V 0 0 E0, .int .i64 0, .int .i64 10]) (by simp [results, Try.results25, go_sem, hq]) rfl ⟨by rw [HV.out, HS.out, HE.out]; rfl, bset3 (hb0.trans (hbel.mono (Nat.le_succ _))) (Nat.le_refl _) _ _ _⟩

set_option maxHeartbeats 2000000 in
theorem next_any (s : ByteArray) (hs : s.size ≤ 1000000) (h0 : 0 < s.size) (w : World) :
    Calls Try.prog 25 #[.string s] w fun e w' => e = .returned (nextRes s.size (takeV s.data.toList)) ∧ Below w.heap.size w w' := by
  obtain ⟨c, hc⟩ : ∃ c, s[0] = c := ⟨_, rfl⟩
  have HL : Hid (s.data.toList = c :: s.data.toList.drop 1) := by
    show s.data.toList = _
    have := drop_succ s 0 h0
    rw [List.drop_zero] at this
    rw [this, hc]
    rfl
  have hdl : (s.size - (s.data.toList.drop 1).length : Nat) = 1 := by simp; omega
  have HN : Hid ((s.size - (s.data.toList.drop 1).length : Nat) = 1) := hdl
  clear hdl
  by_cases h5 : c = 5
  · exact next_text s hs h0 (hc.trans h5) w
  by_cases h4 : c = 4
  · exact next_num s hs h0 (hc.trans h4) w
  have q1 := first_tests h0 c hc 1
  have q2 := first_tests h0 c hc 2
  have q3 := first_tests h0 c hc 3
  have q4 := first_tests h0 c hc 4
  have q5 := first_tests h0 c hc 5
  clear hc
  by_cases h1 : c = 1
  · subst h1
    have t1 : ((s[0].toNat : Int) == 1) = true := q1
    clear q1 q2 q3 q4 q5 h4 h5
    go_enter Try.func25, Try.ntmps25
    go_wp2
    exact bodyPost_ret (v := .tuple #[V 0 0 E0, .int .i64 1, .int .i64 0]) (by simp [results, Try.results25, go_sem]) rfl ⟨by rw [HL.out]; show _ = Ending.returned (.tuple #[_, .int .i64 ((s.size - (s.data.toList.drop 1).length : Nat) : Int), _]); rw [HN.out]; rfl, (Below.refl _ _).alloc (Nat.le_refl _) _⟩
  by_cases h2 : c = 2
  · subst h2
    have t1 : ((s[0].toNat : Int) == 1) = false := q1
    have t2 : ((s[0].toNat : Int) == 2) = true := q2
    have t3 : ((s[0].toNat : Int) == 3) = false := q3
    clear q1 q2 q3 q4 q5 h4 h5 h1
    go_enter Try.func25, Try.ntmps25
    go_wp2_with (go_at_call 34; refine (refBool_any _ _).mono ?_; rintro e w1 ⟨rfl, hb1⟩; have hq := bbelow hb1)
    exact bodyPost_ret (v := .tuple #[V 1 0 E0, .int .i64 1, .int .i64 0]) (by simp [results, Try.results25, go_sem, hq, oneOf]) rfl ⟨by rw [HL.out]; show _ = Ending.returned (.tuple #[_, .int .i64 ((s.size - (s.data.toList.drop 1).length : Nat) : Int), _]); rw [HN.out]; rfl, bset3 (bnew hb1) (Nat.le_refl _) _ _ _⟩
  by_cases h3 : c = 3
  · subst h3
    have t1 : ((s[0].toNat : Int) == 1) = false := q1
    have t2 : ((s[0].toNat : Int) == 2) = false := q2
    have t3 : ((s[0].toNat : Int) == 3) = true := q3
    clear q1 q2 q3 q4 q5 h4 h5 h1 h2
    go_enter Try.func25, Try.ntmps25
    go_wp2_with (go_at_call 34; refine (refBool_any _ _).mono ?_; rintro e w1 ⟨rfl, hb1⟩; have hq := bbelow hb1)
    exact bodyPost_ret (v := .tuple #[V 1 1 E0, .int .i64 1, .int .i64 0]) (by simp [results, Try.results25, go_sem, hq, oneOf]) rfl ⟨by rw [HL.out]; show _ = Ending.returned (.tuple #[_, .int .i64 ((s.size - (s.data.toList.drop 1).length : Nat) : Int), _]); rw [HN.out]; rfl, bset3 (bnew hb1) (Nat.le_refl _) _ _ _⟩
  have t1 : ((s[0].toNat : Int) == 1) = false := by rw [decide_eq_false h1] at q1; exact q1
  have t2 : ((s[0].toNat : Int) == 2) = false := by rw [decide_eq_false h2] at q2; exact q2
  have t3 : ((s[0].toNat : Int) == 3) = false := by rw [decide_eq_false h3] at q3; exact q3
  have t4 : ((s[0].toNat : Int) == 4) = false := by rw [decide_eq_false h4] at q4; exact q4
  have t5 : ((s[0].toNat : Int) != 5) = true := by
    have : ((s[0].toNat : Int) == 5) = false := by rw [decide_eq_false h5] at q5; exact q5
    simp only [bne, this]; rfl
  have HV : Hid (takeV s.data.toList = none) := by
    show takeV _ = _
    rw [HL.out]
    simp [takeV, h1, h2, h3, h4, h5]
  clear q1 q2 q3 q4 q5 h1 h2 h3 h4 h5
  go_enter Try.func25, Try.ntmps25
  go_wp2
  exact bodyPost_ret (v := .tuple #[V 0 0 E0, .int .i64 0, .int .i64 10]) (by simp [results, Try.results25, go_sem]) rfl ⟨by rw [HV.out]; rfl, (Below.refl _ _).alloc (Nat.le_refl _) _⟩

end Go.Proofs.Ythbmcfbchomckaa
