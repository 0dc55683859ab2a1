/- Contract of the program's span: with a test that hangs on the byte alone, and with one that keeps something. -/
import Derived.Test.YtppihaaipkmpcaaDoorTokP1
namespace Go.Proofs.YtppihaaipkmpcaaDoor
open Go.RowKit Go.Sort

theorem spanN_step {p : UInt8 → Bool} {s : ByteArray} {k : Nat} (hk : k < s.size) (h : runN p s.data.toList = k + runN p (s.data.toList.drop k)) :
    (p s[k] = true → runN p s.data.toList = (k + 1) + runN p (s.data.toList.drop (k + 1))) ∧ (p s[k] = false → runN p s.data.toList = k) := by
  rw [byte_at s hk, runN] at h
  constructor
  · intro hp; rw [hp] at h; simp at h; omega
  · intro hp; rw [hp] at h; simpa using h

set_option maxHeartbeats 1000000 in
theorem span_any (K : Nat) (p : UInt8 → Bool) (hK : ∀ (a : Array Value) (w : World), (callFunc K a).run Tryd.prog w = .ok (.enter K a) w) (hp : ∀ (w : World) (c : UInt8), Calls Tryd.prog K #[.int .u8 (c.toNat : Int)] w fun e w' => e = .returned (.bool (p c)) ∧ w' = w)
    (w : World) (s : ByteArray) (hs : s.size ≤ 1000000) :
    Calls Tryd.prog 16 #[.string s, .func (.func K) #[] #[]] w fun e w' => e = .returned (.int .i64 (runN p s.data.toList : Int)) ∧ w' = w := by
  go_enter Tryd.func16, Tryd.ntmps16
  go_wp2_with fail
  go_loopw [8] (fun i wr => ∃ k : Nat, k ≤ s.size ∧ i = .int .i64 k ∧ wr = w ∧ runN p s.data.toList = k + runN p (s.data.toList.drop k)) (fun i _ => s.size - (intOf i).toNat)
  case atStart => exact ⟨0, Nat.zero_le _, rfl, rfl, by simp⟩
  case round =>
    obtain ⟨k, hks, rfl, rfl, hrun⟩ := hrel
    by_cases hk : k < s.size
    · have HSt := spanN_step hk hrun
      have hc := hp wr s[k]
      have i0 : (0 : Int) ≤ (k : Int) := by omega
      have i1 : (k : Int) < (s.size : Int) := by omega
      cases hb : p s[k]
      · have HR : Hid (runN p s.data.toList = k) := HSt.2 hb
        rw [hb] at hc
        clear HSt hrun hb hp
        go_wp2_with fail
        refine hc.mono ?_
        rintro e w1 ⟨rfl, hw1⟩
        subst w1
        go_wp2_with fail
        go_ret
        exact ⟨by rw [HR.out]; rfl, rfl⟩
      · have HR : Hid (runN p s.data.toList = (k + 1) + runN p (s.data.toList.drop (k + 1))) := HSt.1 hb
        rw [hb] at hc
        clear HSt hrun hb hp
        go_wp2_with fail
        refine hc.mono ?_
        rintro e w1 ⟨rfl, hw1⟩
        subst w1
        go_wp2_with fail
        go_roundw
        case rel => exact ⟨k + 1, by omega, by go_num, by first | rfl | trivial, HR.out⟩
        case measure => simp [intOf]; omega
    · have hnil : s.data.toList.drop k = [] := List.drop_eq_nil_of_le (by simp; omega)
      rw [hnil] at hrun
      have HR : Hid (runN p s.data.toList = s.size) := by
        show runN p s.data.toList = _
        rw [hrun]; simp [runN]; omega
      clear hrun hnil hp
      go_wp2_with fail
      go_ret
      exact ⟨by rw [HR.out]; rfl, rfl⟩

theorem quote_any (w : World) (c : UInt8) (o : Bool) : Calls Tryd.prog 36 #[.int .u8 (c.toNat : Int), .pointer (some ⟨w.heap.size, 0, none⟩)] (w.alloc (.cells #[.bool o] 4)) fun e w' =>
    if c.toNat = 39 then e = .returned (.bool true) ∧ w' = w.alloc (.cells #[.bool (!o)] 4) else e = .returned (.bool o) ∧ w' = w.alloc (.cells #[.bool o] 4) := by
  by_cases h : c.toNat = 39
  · have q : ((c.toNat : Int) == 39) = true := by rw [h]; rfl
    simp only [h, if_true]
    have HC : Hid (c.toNat = 39) := h
    rw [← h]
    clear h
    go_enter Tryd.func36, Tryd.ntmps36
    go_wp2_with fail
    go_ret
    exact ⟨rfl, rfl⟩
  · have q : ((c.toNat : Int) == 39) = false := by rw [beq_eq_false_iff_ne]; omega
    simp only [h, if_false]
    go_enter Tryd.func36, Tryd.ntmps36
    go_wp2_with fail
    go_ret
    exact ⟨rfl, rfl⟩

set_option maxHeartbeats 1000000 in
theorem spanQ_any (w : World) (s : ByteArray) (hs : s.size ≤ 1000000) :
    Calls Tryd.prog 16 #[.string s, .func (.func 36) #[] #[.pointer (some ⟨w.heap.size, 0, none⟩)]] (w.alloc (.cells #[.bool false] 4)) fun e w' =>
      e = .returned (.int .i64 ((qrun false s.data.toList).1 : Int)) ∧ w' = w.alloc (.cells #[.bool (qrun false s.data.toList).2] 4) := by
  go_enter Tryd.func16, Tryd.ntmps16
  go_wp2_with fail
  go_loopw [8] (fun i wr => ∃ (k : Nat) (o : Bool), k ≤ s.size ∧ i = .int .i64 k ∧ wr = w.alloc (.cells #[.bool o] 4) ∧ qrun false s.data.toList = (k + (qrun o (s.data.toList.drop k)).1, (qrun o (s.data.toList.drop k)).2)) (fun i _ => s.size - (intOf i).toNat)
  case atStart => exact ⟨0, false, Nat.zero_le _, rfl, rfl, by simp⟩
  case round =>
    obtain ⟨k, o, hks, rfl, rfl, hrun⟩ := hrel
    by_cases hk : k < s.size
    · have hc := quote_any w s[k] o
      have i0 : (0 : Int) ≤ (k : Int) := by omega
      have i1 : (k : Int) < (s.size : Int) := by omega
      rw [byte_at s hk, qrun] at hrun
      by_cases h39 : s[k].toNat = 39
      · simp only [h39, if_true] at hrun hc
        have HR : Hid (qrun false s.data.toList = ((k + 1) + (qrun (!o) (s.data.toList.drop (k + 1))).1, (qrun (!o) (s.data.toList.drop (k + 1))).2)) := by
          show qrun _ _ = _
          rw [hrun]; simp only [Prod.mk.injEq, and_true]; omega
        rw [← h39] at hc
        clear hrun h39
        go_wp2_with fail
        refine hc.mono ?_
        rintro e w1 ⟨rfl, hw1⟩
        subst w1
        go_wp2_with fail
        go_roundw
        case rel => exact ⟨k + 1, !o, by omega, by go_num, by first | rfl | trivial, HR.out⟩
        case measure => simp [intOf]; omega
      · simp only [h39, if_false] at hrun hc
        cases o
        · have HR : Hid (qrun false s.data.toList = (k, false)) := by
            show qrun _ _ = _
            rw [hrun]; simp
          clear hrun h39
          go_wp2_with fail
          refine hc.mono ?_
          rintro e w1 ⟨rfl, hw1⟩
          subst w1
          go_wp2_with fail
          go_ret
          exact ⟨by rw [HR.out]; rfl, by rw [HR.out]⟩
        · have HR : Hid (qrun false s.data.toList = ((k + 1) + (qrun true (s.data.toList.drop (k + 1))).1, (qrun true (s.data.toList.drop (k + 1))).2)) := by
            show qrun _ _ = _
            rw [hrun]; simp only [if_true, Prod.mk.injEq, and_true]; omega
          clear hrun h39
          go_wp2_with fail
          refine hc.mono ?_
          rintro e w1 ⟨rfl, hw1⟩
          subst w1
          go_wp2_with fail
          go_roundw
          case rel => exact ⟨k + 1, true, by omega, by go_num, by first | rfl | trivial, HR.out⟩
          case measure => simp [intOf]; omega
    · have hnil : s.data.toList.drop k = [] := List.drop_eq_nil_of_le (by simp; omega)
      rw [hnil] at hrun
      have HR : Hid (qrun false s.data.toList = (s.size, o)) := by
        show qrun _ _ = _
        rw [hrun]; simp [qrun]; omega
      clear hrun hnil
      go_wp2_with fail
      go_ret
      exact ⟨by rw [HR.out]; rfl, by rw [HR.out]⟩

end Go.Proofs.YtppihaaipkmpcaaDoor
