/- Contracts of putInt, putText and putValue: what bytes they lay behind those of the slice that they are handed. -/
import Derived.Test.YtalfeggddfpgeaaDoorOwn
namespace Go.Proofs.YtalfeggddfpgeaaDoor
open Go.RowKit Go.Sort

/-- A text's bytes, each 0 followed by 255. -/
def esc : List UInt8 → List UInt8
  | [] => []
  | b :: r => if b = 0 then 0 :: 255 :: esc r else b :: esc r
theorem esc_append (l m : List UInt8) : esc (l ++ m) = esc l ++ esc m := by
  induction l with
  | nil => rfl
  | cons b l ih =>
    by_cases hb : b = 0
    · simp [esc, hb, ih]
    · simp [esc, hb, ih]
theorem esc_length_le (l : List UInt8) : (esc l).length ≤ 2 * l.length := by
  induction l with
  | nil => simp [esc]
  | cons b l ih =>
    by_cases hb : b = 0
    · simp [esc, hb]; omega
    · simp [esc, hb]; omega
/-- The first k bytes of a text. -/
abbrev pre (s : ByteArray) (k : Nat) : List UInt8 := s.data.toList.take k
theorem pre_succ (s : ByteArray) (k : Nat) (h : k < s.size) : pre s (k + 1) = pre s k ++ [s[k]] := by
  have h' : k < s.data.toList.length := by simpa using h
  unfold pre
  rw [List.take_succ_eq_append_getElem h']
  rfl
theorem pre_all (s : ByteArray) : pre s s.size = s.data.toList := List.take_of_length_le (by simp)
theorem pre_length (s : ByteArray) (k : Nat) : (pre s k).length ≤ k := by simp [pre]; omega

set_option maxHeartbeats 1000000 in
theorem putText_any (w : World) (base : Nat) (v : Value) (bs : List UInt8) (s : ByteArray) (hown : OwnB w base v bs) (hb : base ≤ w.heap.size) (hlen : bs.length ≤ 500000) (hs : s.size ≤ 1100) :
    Calls Tryd.prog 52 #[v, .string s] w fun e w' => ∃ v', e = .returned v' ∧ OwnB w' base v' (bs ++ (esc s.data.toList ++ [0, 0])) ∧ Below base w w' := by
  go_enter Tryd.func52, Tryd.ntmps52
  go_wp2
  go_loopw [0, 8] (fun u i wr => ∃ k : Nat, k ≤ s.size ∧ i = .int .i64 k ∧ OwnB wr base u (bs ++ esc (pre s k)) ∧ Below base w wr) (fun _ i _ => s.size - (intOf i).toNat)
  case atStart => exact ⟨0, Nat.zero_le _, rfl, by simpa [esc, pre] using hown, Below.refl _ _⟩
  case round =>
    obtain ⟨k, hk, rfl, hr, hbel⟩ := hrel
    have hsz := hbel.size
    have hel := esc_length_le (pre s k)
    have hpl := pre_length s k
    clear hown
    by_cases hlt : k < s.size
    · have hps := pre_succ s k hlt
      by_cases hz : s[k] = 0
      · have hz' : ((s[k].toNat : Int) == 0) = true := by rw [hz]; rfl
        have HZ : Hid (s[k] = 0) := hz
        have HP : Hid (pre s (k + 1) = pre s k ++ [s[k]]) := hps
        clear hz hps
        go_wp2_with (first
          | (at_builtin; refine wpList_push (.tmp 11) (.tmp 15) rfl rfl rfl hr (by omega) [s[k]] rfl rfl (by first | rfl | simp) (by simp; omega) ?_; intro v1 w1 hr1 hb1; have hsz1 := hb1.size)
          | (at_builtin; refine wpList_push (.tmp 21) (.tmp 22) rfl rfl rfl hr1 (by omega) [255] rfl rfl (by first | rfl | simp) (by simp; omega) ?_; intro v2 w2 hr2 hb2))
        go_roundw
        case rel => exact ⟨k + 1, by omega, by go_num, by rw [HP.out, esc_append, HZ.out]; rw [HZ.out] at hr2; simpa [esc] using hr2, (hbel.trans hb1).trans hb2⟩
        case measure => simp [intOf]; omega
      · have hz' : ((s[k].toNat : Int) == 0) = false := by
          have : s[k].toNat ≠ 0 := fun h => hz (UInt8.toNat_inj.1 h)
          simp; omega
        have HZ : Hid (¬ s[k] = 0) := hz
        have HP : Hid (pre s (k + 1) = pre s k ++ [s[k]]) := hps
        clear hz hps
        go_wp2_with (at_builtin; refine wpList_push (.tmp 11) (.tmp 15) rfl rfl rfl hr (by omega) [s[k]] rfl rfl (by first | rfl | simp) (by simp; omega) ?_; intro v1 w1 hr1 hb1)
        go_roundw
        case rel => exact ⟨k + 1, by omega, by go_num, by rw [HP.out, esc_append]; simpa [esc, HZ.out] using hr1, hbel.trans hb1⟩
        case measure => simp [intOf]; omega
    · have hkk : k = s.size := by omega
      subst hkk
      rw [pre_all] at hr hel hpl
      go_wp2_with (at_builtin; refine wpList_push (.tmp 25) (.tmp 26) rfl rfl rfl hr (by omega) [0, 0] rfl rfl (by first | rfl | simp) (by simp; omega) ?_; intro v1 w1 hr1 hb1)
      go_ret
      exact ⟨_, rfl, by simpa using hr1, hbel.trans hb1⟩

end Go.Proofs.YtalfeggddfpgeaaDoor
