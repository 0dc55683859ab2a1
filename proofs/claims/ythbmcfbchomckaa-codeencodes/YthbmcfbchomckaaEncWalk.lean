/- The walk of CodeEncodes: true, whatever row and columns. -/
import Derived.Test.YthbmcfbchomckaaKey
import Derived.Test.YthbmcfbchomckaaEnc2
import Derived.Test.YthbmcfbchomckaaFew
namespace Go.Proofs.Ythbmcfbchomckaa
open Go.RowKit Go.Sort

set_option maxHeartbeats 4000000 in
theorem codeEncodes_any (w : World) (v u : Value) (l : List Ent) (cs : List Int) (hl : Lies w v l) (hi : LiesI w u cs) (hm : l.length ≤ maxLen) (hmc : cs.length ≤ maxLen) (hin : ∀ e ∈ l, inR e.1 ∧ inR e.2.1) :
    Calls Try.prog 3 #[v, u] w fun e w' => e = .returned (.bool true) ∧ Below w.heap.size w w' := by
  have hmc' : cs.length ≤ 9223372036854775807 := by unfold maxLen at hmc; omega
  have HL := hl
  have HI := hi
  obtain ⟨ao, cap, rfl, hc⟩ := hl
  obtain ⟨io, icap, rfl, hd⟩ := hi
  by_cases hfew : fewB l = true
  · by_cases h60 : cs.length ≤ 60
    · obtain ⟨hf, hlen⟩ := fair_of_few hfew hin
      clear hin
      go_enter Try.func3, Try.ntmps3
      go_wp2_with (first
        | (go_at_call 8; refine (few_any _ _ l HL hm).mono ?_; rintro e w1 ⟨rfl, hw1⟩; subst hw1)
        | (go_at_call 10; refine (encode_any _ _ l HL hlen hf).mono ?_; rintro e w2 ⟨rfl, hb2⟩)
        | (go_at_call 11; refine (refEncode_any _ _ l (HL.keep hb2) hlen hf).mono ?_; rintro e w3 ⟨rfl, hb3⟩)
        | (go_at_call 12; refine (key_any _ _ _ l cs (HL.keep (btrans hb2 hb3)) (HI.keep (btrans hb2 hb3)) h60 hf).mono ?_; rintro e w4 ⟨rfl, hb4⟩))
      have HB4 : Below w1.heap.size w1 w4 := btrans (btrans hb2 hb3) hb4
      clear hb2 hb3 hb4
      go_loopw [11, 51] (fun x i wr => ∃ k : Nat, k ≤ cs.length ∧ i = .int .i64 k ∧ OwnV wr w1.heap.size x (pick l (cs.take k)) ∧ okCols l (cs.take k) = true ∧ Below w1.heap.size w1 wr) (fun _ i _ => cs.length - (intOf i).toNat)
      case atStart => exact ⟨0, Nat.zero_le _, rfl, OwnV.nil _ _, rfl, HB4⟩
      case round =>
        obtain ⟨k, hk, rfl, hr, hok, hbel⟩ := hrel
        have hsz := hbel.size
        have HO : Hid (okCols l (cs.take k) = true) := hok
        clear hok HB4
        by_cases hlt : k < cs.length
        · obtain ⟨b, off, rfl, h1⟩ := hd k hlt
          have HT : Hid (cs.take (k + 1) = cs.take k ++ [cs[k]]) := List.take_succ_eq_append_getElem hlt
          have HM : Hid (cs[k] ∈ cs) := List.getElem_mem hlt
          have g1 := (hbel.cell (block_lt_of_cell h1)).trans h1
          generalize cs[k] = c at g1 HT HM h1
          clear h1 hd
          by_cases hcr : 0 ≤ c ∧ c < l.length
          · obtain ⟨hc0, hc1⟩ := hcr
            obtain ⟨m, rfl⟩ : ∃ m : Nat, c = m := ⟨c.toNat, by omega⟩
            have hml : m < l.length := by omega
            obtain ⟨b', off', rfl, k1, k2, k3⟩ := hc m hml
            have HP : Hid (pick l (cs.take (k + 1)) = pick l (cs.take k) ++ [l[m]]) := by
              show pick l (cs.take (k + 1)) = _
              rw [HT.out]
              simp [pick, List.getD, hml]
            have HQ : Hid (okCols l (cs.take (k + 1)) = true) := by
              show okCols l (cs.take (k + 1)) = true
              rw [HT.out, okCols, List.all_append]
              have := HO.out
              unfold okCols at this
              rw [this]
              simp [hml]
            have e1 := (hbel.cell (block_lt_of_cell k1)).trans k1
            have e2 := (hbel.cell (block_lt_of_cell k2)).trans k2
            have e3 := (hbel.cell (block_lt_of_cell k3)).trans k3
            generalize l[m] = en at e1 e2 e3 HP
            obtain ⟨t, n, s⟩ := en
            simp only at e1 e2 e3
            have hpl : (pick l (cs.take k)).length ≤ 60 := by rw [pick_length]; simp; omega
            clear k1 k2 k3 hc hmc' hmc hm HL HI
            go_wp2_with (at_builtin; refine wpList_pushV (.tmp 72) (.tmp 77) rfl rfl rfl hr hsz [(t, n, s)] rfl rfl (by first | rfl | simp) (by simp; omega) ?_; intro v1 w1 hr1 hb1)
            go_roundw
            case rel => exact ⟨k + 1, by omega, by go_num, by rw [HP.out]; exact hr1, HQ.out, hbel.trans hb1⟩
            case measure => simp [intOf]; omega
          · have hbad : okCols l cs = false := List.all_eq_false.2 ⟨c, HM.out, by simpa using hcr⟩
            have hks : keyS l cs = E0 := by rw [keyS, hbad]; rfl
            have hke : keyE l cs = 2 := by rw [keyE, hbad]; rfl
            clear hbad hc
            rcases (show c < 0 ∨ (0 ≤ c ∧ (l.length : Int) ≤ c) by omega) with hneg | ⟨hpos, hge⟩
            · go_wp2_with (go_at_call 9; refine (alive_any _).mono ?_; rintro e w5 ⟨rfl, hb5⟩)
              go_ret
              exact ⟨rfl, btrans hbel hb5⟩
            · go_wp2_with (go_at_call 9; refine (alive_any _).mono ?_; rintro e w5 ⟨rfl, hb5⟩)
              go_ret
              exact ⟨rfl, btrans hbel hb5⟩
        · have hkk : k = cs.length := by omega
          subst hkk
          rw [List.take_length] at hr HO
          have hks : keyS l cs = encS (pick l cs) := by rw [keyS, HO.out]; rfl
          have hke : keyE l cs = encErr (pick l cs) := by rw [keyE, HO.out]; rfl
          have hpf := pick_fair hf cs
          have hpl : (pick l cs).length ≤ 60 := by rw [pick_length]; exact h60
          go_wp2_with (first
            | (go_at_call 11; refine (refEncode_any _ _ (pick l cs) hr.lies hpl hpf).mono ?_; rintro e w5 ⟨rfl, hb5⟩)
            | (go_at_call 9; refine (alive_any _).mono ?_; rintro e w6 ⟨rfl, hb6⟩))
          go_ret
          exact ⟨rfl, btrans (btrans hbel hb5) hb6⟩
    · go_enter Try.func3, Try.ntmps3
      go_wp2_with (first
        | (go_at_call 8; refine (few_any _ _ l HL hm).mono ?_; rintro e w1 ⟨rfl, hw1⟩; subst hw1)
        | (go_at_call 9; refine (alive_any _).mono ?_; rintro e w2 ⟨rfl, hb2⟩))
      go_ret
      exact ⟨rfl, hb2⟩
  · have hfew' : fewB l = false := by simpa using hfew
    clear hfew
    go_enter Try.func3, Try.ntmps3
    go_wp2_with (first
      | (go_at_call 8; refine (few_any _ _ l HL hm).mono ?_; rintro e w1 ⟨rfl, hw1⟩; subst hw1)
      | (go_at_call 9; refine (alive_any _).mono ?_; rintro e w2 ⟨rfl, hb2⟩))
    go_ret
    exact ⟨rfl, hb2⟩

theorem encodes_law (v : Value) (l : List Ent) (u : Value) (cs : List Int) {w : World} (hl : Lies w v l) (hm : l.length ≤ maxLen) (hin : ∀ e ∈ l, inR e.1 ∧ inR e.2.1) (hi : LiesI w u cs) (hmc : cs.length ≤ maxLen) (_ : ∀ e ∈ cs, inR e) (_ : World) :
    Calls Try.prog 3 #[v, u] w fun e w' => e = .returned (.bool true) ∧ Below w.heap.size w w' := codeEncodes_any w v u l cs hl hi hm hmc hin

end Go.Proofs.Ythbmcfbchomckaa
