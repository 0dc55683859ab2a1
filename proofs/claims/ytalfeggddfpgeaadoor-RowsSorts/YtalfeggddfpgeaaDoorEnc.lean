/- Contract of Encode: the row's bytes, or the error. -/
import Derived.Test.YtalfeggddfpgeaaDoorRows2
namespace Go.Proofs.YtalfeggddfpgeaaDoor
open Go.RowKit Go.Sort

set_option maxHeartbeats 2000000 in
theorem encode_any (w : World) (v : Value) (l : List Ent) (hl : Lies w v l) (hlen : l.length ≤ 60) (hf : Fair l) :
    Calls Tryd.prog 38 #[v] w fun e w' => e = .returned (.tuple #[.string (encS l), .int .i64 (encErr l)]) ∧ Below w.heap.size w w' := by
  obtain ⟨ao, cap, rfl, hc⟩ := hl
  go_enter Tryd.func38, Tryd.ntmps38
  go_wp2
  go_loopw [12] (fun i wr => ∃ k : Nat, k ≤ l.length ∧ i = .int .i64 k ∧ Below w.heap.size w wr ∧ rowErr l = rowErr (l.drop k)) (fun i _ => l.length - (intOf i).toNat)
  case atStart => exact ⟨0, Nat.zero_le _, rfl, Below.refl _ _, rfl⟩
  case round =>
    obtain ⟨k, hk, rfl, hbel, hre⟩ := hrel
    have HR : Hid (rowErr l = rowErr (l.drop k)) := hre
    clear hre
    by_cases hlt : k < l.length
    · obtain ⟨b, off, rfl, h1, h2, h3⟩ := hc k hlt
      have HD := rowErr_drop hlt
      have g1 := (hbel.cell (block_lt_of_cell h1)).trans h1
      have g2 := (hbel.cell (block_lt_of_cell h2)).trans h2
      have g3 := (hbel.cell (block_lt_of_cell h3)).trans h3
      obtain ⟨⟨t, n, s⟩, he⟩ : ∃ e, e = l[k] := ⟨_, rfl⟩
      rw [← he] at g1 g2 g3 HD
      have HE : Hid ((t, n, s) = l[k]) := he
      have HD' : Hid (rowErr (l.drop k) = if rightE t n s = 0 then rowErr (l.drop (k + 1)) else rightE t n s) := HD
      clear h1 h2 h3 hc HD he
      by_cases hz : rightE t n s = 0
      · have hz' : (rightE t n s != 0) = false := by simp [hz]
        have HZ : Hid (rightE t n s = 0) := hz
        clear hz
        go_wp2_with (go_at_call 44; refine (right_any _ _ _ _).mono ?_; rintro e w1 ⟨rfl, hb1⟩)
        go_roundw
        case rel => exact ⟨k + 1, by omega, by go_num, btrans hbel (bnew hb1), by rw [HR.out, HD'.out, if_pos HZ.out]⟩
        case measure => simp [intOf]; omega
      · have hz' : (rightE t n s != 0) = true := by simp [hz]
        have HZ : Hid (¬ rightE t n s = 0) := hz
        clear hz
        go_wp2_with (go_at_call 44; refine (right_any _ _ _ _).mono ?_; rintro e w1 ⟨rfl, hb1⟩)
        go_ret2
        have hr : rowErr l = rightE t n s := by rw [HR.out, HD'.out, if_neg HZ.out]
        have he : encErr l = rightE t n s := by unfold encErr; rw [hr, if_neg HZ.out]
        refine ⟨?_, btrans hbel (bnew hb1)⟩
        rw [encS, he, if_neg HZ.out]
        rfl
    · have hkk : k = l.length := by omega
      subst hkk
      have hr0 : rowErr l = 0 := by rw [HR.out, List.drop_length]; rfl
      have HR0 : Hid (rowErr l = 0) := hr0
      clear HR hr0 hlt
      by_cases h40 : 40 < l.length
      · go_wp2
        go_ret2
        have he : encErr l = 8 := by unfold encErr; rw [HR0.out, if_pos rfl, if_pos h40]
        refine ⟨?_, hbel⟩
        rw [encS, he, if_neg (by omega)]
        rfl
      · have he : encErr l = 0 := by unfold encErr; rw [HR0.out, if_pos rfl, if_neg h40]
        have HE : Hid (encErr l = 0) := he
        clear he
        have hsz := hbel.size
        go_wp2
        go_loopw [7, 27] (fun u i ws => ∃ k : Nat, k ≤ l.length ∧ i = .int .i64 k ∧ OwnB ws w.heap.size u (encRow (l.take k)) ∧ Below w.heap.size w ws) (fun _ i _ => l.length - (intOf i).toNat)
        case atStart => exact ⟨0, Nat.zero_le _, rfl, OwnB.nil _ _, hbel⟩
        case round =>
          obtain ⟨k, hk, rfl, hr, hbel2⟩ := hrel
          clear hbel hsz
          have hsz := hbel2.size
          by_cases hlt : k < l.length
          · obtain ⟨b, off, rfl, h1, h2, h3⟩ := hc k hlt
            have g1 := (hbel2.cell (block_lt_of_cell h1)).trans h1
            have g2 := (hbel2.cell (block_lt_of_cell h2)).trans h2
            have g3 := (hbel2.cell (block_lt_of_cell h3)).trans h3
            have HT : Hid (encRow (l.take (k + 1)) = encRow (l.take k) ++ encV l[k]) := encRow_take hlt
            have hmem : l[k] ∈ l := List.getElem_mem hlt
            have hfk := hf _ hmem
            have hrk := right_kinds (rowErr_zero HR0.out _ hmem)
            have hel := encRow_length (hf.take k)
            have htl : (l.take k).length ≤ 40 := by simp; omega
            generalize l[k] = en at g1 g2 g3 HT hfk hrk
            obtain ⟨t, n, s⟩ := en
            simp only at g1 g2 g3 hfk hrk
            clear h1 h2 h3 hc hmem
            have hown := hr.alloc (.cells #[.int .i64 t, .int .i64 n, .string s] 34)
            have HK : Hid (t = 0 ∨ (t = 1 ∧ (n = 0 ∨ n = 1)) ∨ t = 2 ∨ t = 3) := hrk
            clear hrk hr
            go_wp2_with (go_at_call 45; refine (putValue_any _ w.heap.size _ _ t n s hown (by simp; omega) (by omega) hfk.2.2 hfk.1 HK.out).mono ?_; rintro e w1 ⟨v1, rfl, hr1, hb1⟩)
            go_roundw
            case rel => exact ⟨k + 1, by omega, by go_num, by rw [HT.out]; exact hr1, (hbel2.trans ((Below.refl _ _).alloc hsz _)).trans hb1⟩
            case measure => simp [intOf]; omega
          · have hkk : k = l.length := by omega
            subst hkk
            rw [List.take_length] at hr
            have hcv := run_string hr
            go_wp2
            go_ret2
            refine ⟨?_, hbel2⟩
            rw [encS, HE.out, if_pos rfl]
            rfl

end Go.Proofs.YtalfeggddfpgeaaDoor
