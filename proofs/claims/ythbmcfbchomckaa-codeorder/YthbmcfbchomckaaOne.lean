/- Contract of the document's own 'one': the bytes of a right value. -/
import Derived.Test.YthbmcfbchomckaaPutV
namespace Go.Proofs.Ythbmcfbchomckaa
open Go.RowKit Go.Sort

/-- The last k bytes of a number. -/
def tailN (B : Nat) : Nat → List UInt8
  | 0 => []
  | k + 1 => UInt8.ofNat (B / 256 ^ k) :: tailN B k
theorem tailN_all (B : Nat) : tailN B 8 = encN B := by simp [tailN, encN]
theorem tailN_length (B k : Nat) : (tailN B k).length = k := by
  induction k with
  | zero => rfl
  | succ k ih => simp [tailN, ih]

theorem plus_u64 {n : Int} (hn : inR n) : IntKind.u64.wrap (IntKind.u64.wrap n + 9223372036854775808) = n + 9223372036854775808 := by
  unfold inR at hn
  have hw : ∀ z, IntKind.u64.wrap z = z % 18446744073709551616 := fun z => by simp [IntKind.wrap, IntKind.signed, IntKind.bits]
  rw [hw, hw]
  omega

theorem quo_u64 {C : Nat} (h : C < 18446744073709551616) : IntKind.u64.wrap ((C : Int) / 256) = ((C / 256 : Nat) : Int) := by
  have hw : ∀ z, IntKind.u64.wrap z = z % 18446744073709551616 := fun z => by simp [IntKind.wrap, IntKind.signed, IntKind.bits]
  rw [hw]
  omega

set_option maxHeartbeats 2000000 in
theorem one_any (w : World) (t n : Int) (s : ByteArray) (hn : inR n) (hs : s.size ≤ 1100) (ht : t = 0 ∨ (t = 1 ∧ (n = 0 ∨ n = 1)) ∨ t = 2 ∨ t = 3) :
    Calls Try.prog 23 #[V t n s] w fun e w' => ∃ v', e = .returned v' ∧ OwnB w' w.heap.size v' (encV (t, n, s)) ∧ Below w.heap.size w w' := by
  have hbel1 : Below w.heap.size w (w.alloc (.cells #[.int .i64 t, .int .i64 n, .string s] 33)) := (Below.refl _ _).alloc (Nat.le_refl _) _
  rcases ht with rfl | ⟨rfl, hn1⟩ | rfl | rfl
  · go_enter Try.func23, Try.ntmps23
    go_wp2
    go_ret
    exact ⟨_, rfl, by simpa [encV] using OwnB.lit (w.alloc _) [1] rfl (by simp) (by simp) (by simp), btrans hbel1 ((Below.refl _ _).alloc (Nat.le_refl _) _)⟩
  · rcases hn1 with rfl | rfl
    · go_enter Try.func23, Try.ntmps23
      go_wp2
      go_ret
      exact ⟨_, rfl, by simpa [encV] using OwnB.lit (w.alloc _) [2] rfl (by simp) (by simp) (by simp), btrans hbel1 ((Below.refl _ _).alloc (Nat.le_refl _) _)⟩
    · go_enter Try.func23, Try.ntmps23
      go_wp2
      go_ret
      exact ⟨_, rfl, by simpa [encV] using OwnB.lit (w.alloc _) [3] rfl (by simp) (by simp) (by simp), btrans hbel1 ((Below.refl _ _).alloc (Nat.le_refl _) _)⟩
  · obtain ⟨B, hB⟩ : ∃ B : Nat, n + 9223372036854775808 = B := ⟨(n + 9223372036854775808).toNat, by unfold inR at hn; omega⟩
    have HB : Hid (encI n = encN B) := by show encI n = encN B; unfold encI; rw [hB]; rfl
    have hw := plus_u64 hn
    rw [hB] at hw
    have hB64 : B < 18446744073709551616 := by unfold inR at hn; omega
    clear hB hn
    go_enter Try.func23, Try.ntmps23
    go_wp2
    go_loopw [3, 4, 5] (fun c u i wr => ∃ k C : Nat, k ≤ 8 ∧ i = .int .i64 k ∧ c = .int .u64 C ∧ C = B / 256 ^ k ∧ OwnB wr w.heap.size u (tailN B k) ∧ Below w.heap.size w wr) (fun _ _ i _ => 8 - (intOf i).toNat)
    case atStart => exact ⟨0, B, by omega, rfl, rfl, by simp, OwnB.nil _ _, hbel1⟩
    case round =>
      obtain ⟨k, C, hk, rfl, rfl, hC, hr, hbel⟩ := hrel
      have hsz := hbel.size
      have HC : Hid (C = B / 256 ^ k) := hC
      have hwr := quo_u64 (C := C) (by rw [hC]; exact Nat.lt_of_le_of_lt (Nat.div_le_self _ _) hB64)
      have htl := tailN_length B k
      clear hbel1 hC hw
      by_cases hlt : k < 8
      · have hlit := fun (C0 : Array Value) (h0 : C0.toList = bcells [UInt8.ofNat C]) => OwnB.lit (H := wr.heap.size) wr (base := w.heap.size) [UInt8.ofNat C] h0 hsz rfl (by simp)
        go_wp2_with (at_builtin; refine wpList_cat (.tmp 34) (.tmp 35) rfl rfl rfl rfl (hlit _ (by simp [bcells]; done)) (hr.alloc _) (by simp; omega) (by simp; omega) ?_; intro v1 w1 hr1 hb1)
        go_roundw
        case rel => exact ⟨k + 1, C / 256, by omega, by go_num, by first | rfl | rw [hwr], by rw [HC.out, Nat.div_div_eq_div_mul, Nat.pow_succ], by rw [tailN, ← HC.out]; exact hr1, (hbel.trans ((Below.refl _ _).alloc hsz _)).trans hb1⟩
        case measure => simp [intOf]; omega
      · have hk8 : k = 8 := by omega
        subst hk8
        rw [tailN_all] at hr htl
        have hlit := fun (C0 : Array Value) (h0 : C0.toList = bcells [4]) => OwnB.lit (H := wr.heap.size) wr (base := w.heap.size) [4] h0 hsz rfl (by simp)
        go_wp2_with (at_builtin; refine wpList_cat (.tmp 39) (.tmp 40) rfl rfl rfl rfl (hlit _ rfl) (hr.alloc _) (by simp; omega) (by simp; omega) ?_; intro v1 w1 hr1 hb1)
        go_ret
        exact ⟨_, rfl, by simpa [encV, HB.out] using hr1, (hbel.trans ((Below.refl _ _).alloc hsz _)).trans hb1⟩
  · have pa := At.alloc w 3 n s
    have hsz0 : (w.alloc (.cells #[.int .i64 3, .int .i64 n, .string s] 33)).heap.size = w.heap.size + 1 := by simp
    go_enter Try.func23, Try.ntmps23
    go_wp2
    go_loopw [6, 7] (fun u i wr => ∃ k : Nat, k ≤ s.size ∧ i = .int .i64 k ∧ OwnB wr (w.heap.size + 1) u (5 :: esc (pre s k)) ∧ Below (w.heap.size + 1) (w.alloc (.cells #[.int .i64 3, .int .i64 n, .string s] 33)) wr) (fun _ i _ => s.size - (intOf i).toNat)
    case atStart => exact ⟨0, Nat.zero_le _, rfl, by simpa [esc, pre] using OwnB.lit (w.alloc _) [5] rfl (by simp) (by simp) (by simp), (Below.refl _ _).alloc (by simp) _⟩
    case round =>
      obtain ⟨k, hk, rfl, hr, hbel⟩ := hrel
      have hsz : w.heap.size + 1 ≤ wr.heap.size := by have := hbel.size; omega
      have hel := esc_length_le (pre s k)
      have hpl := pre_length s k
      have cs := (hbel.cell (p := ⟨w.heap.size, 2, none⟩) (by simp)).trans pa.2.2
      by_cases hlt : k < s.size
      · have hps := pre_succ s k hlt
        by_cases hz : s[k] = 0
        · have hz' : ((s[k].toNat : Int) == 0) = true := by rw [hz]; rfl
          have HZ : Hid (s[k] = 0) := hz
          have HP : Hid (pre s (k + 1) = pre s k ++ [s[k]]) := hps
          clear hz hps hbel1 hsz0 pa
          go_wp2_with (first
            | (at_builtin; refine wpList_push (.tmp 50) (.tmp 55) rfl rfl rfl hr (by omega) [s[k]] rfl rfl (by first | rfl | simp) (by simp; omega) ?_; intro v1 w1 hr1 hb1; have hsz1 := hb1.size; have cs1 := (hb1.cell (p := ⟨w.heap.size, 2, none⟩) (by simp)).trans cs)
            | (at_builtin; refine wpList_push (.tmp 62) (.tmp 63) rfl rfl rfl hr1 (by omega) [255] rfl rfl (by first | rfl | simp) (by simp; omega) ?_; intro v2 w2 hr2 hb2))
          go_roundw
          case rel => exact ⟨k + 1, by omega, by go_num, by rw [HP.out, esc_append, HZ.out]; rw [HZ.out] at hr2; simpa [esc] using hr2, (hbel.trans hb1).trans hb2⟩
          case measure => simp [intOf]; omega
        · have hz' : ((s[k].toNat : Int) == 0) = false := by
            have : s[k].toNat ≠ 0 := fun h => hz (UInt8.toNat_inj.1 h)
            simp; omega
          have HZ : Hid (¬ s[k] = 0) := hz
          have HP : Hid (pre s (k + 1) = pre s k ++ [s[k]]) := hps
          clear hz hps hbel1 hsz0 pa
          go_wp2_with (at_builtin; refine wpList_push (.tmp 50) (.tmp 55) rfl rfl rfl hr (by omega) [s[k]] rfl rfl (by first | rfl | simp) (by simp; omega) ?_; intro v1 w1 hr1 hb1; have cs1 := (hb1.cell (p := ⟨w.heap.size, 2, none⟩) (by simp)).trans cs)
          go_roundw
          case rel => exact ⟨k + 1, by omega, by go_num, by rw [HP.out, esc_append]; simpa [esc, HZ.out] using hr1, hbel.trans hb1⟩
          case measure => simp [intOf]; omega
      · have hkk : k = s.size := by omega
        subst hkk
        rw [pre_all] at hr hel hpl
        go_wp2_with (at_builtin; refine wpList_push (.tmp 65) (.tmp 66) rfl rfl rfl hr (by omega) [0, 0] rfl rfl (by first | rfl | simp) (by simp; omega) ?_; intro v1 w1 hr1 hb1)
        go_ret
        exact ⟨_, rfl, by simpa [encV] using hr1.mono (Nat.le_succ _), hbel1.trans ((hbel.trans hb1).mono (Nat.le_succ _))⟩

end Go.Proofs.Ythbmcfbchomckaa
