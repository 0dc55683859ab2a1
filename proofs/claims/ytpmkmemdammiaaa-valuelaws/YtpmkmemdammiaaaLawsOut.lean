/- The law ValueLaws, walked: for any three values it answers true; nothing that was there has turned. -/
import Derived.Test.YtpmkmemdammiaaaAlive
import Derived.Test.YtpmkmemdammiaaaTri
import Derived.LoopN
namespace Go.Proofs.Ytpmkmemdammiaaa
open Go.RowKit Go.Sort

set_option maxRecDepth 100000 in
set_option maxHeartbeats 2000000 in
theorem laws0a (t0 n0 : Int) (s0 : ByteArray) (t1 n1 : Int) (s1 : ByteArray) (t2 n2 : Int) (s2 : ByteArray) (r0 : (rightE t0 n0 s0 == 0) = false) (w : World) :
    Calls Try.prog 4 #[V t0 n0 s0, V t1 n1 s1, V t2 n2 s2] w fun e w' => e = .returned (.bool true) ∧ Below w.heap.size w w' := by
  go_enter Try.func4, Try.ntmps4
  have b : Below w.heap.size w w := Below.refl _ _
  go_wp2_with fail
  refine wp_loop_rounds 4 ?_
  rw [rounds_succ]
  go_wp2_with fail
  replace b : Below w.heap.size w ((((w.alloc (.cells #[.int .i64 t0, .int .i64 n0, .string s0] 23)).alloc (.cells #[.int .i64 t1, .int .i64 n1, .string s1] 23)).alloc (.cells #[.int .i64 t2, .int .i64 n2, .string s2] 23)).alloc (.cells #[.int .i64 t0, .int .i64 n0, .string s0, .int .i64 t1, .int .i64 n1, .string s1, .int .i64 t2, .int .i64 n2, .string s2] 23)) := ((((Below.refl _ _).alloc (Nat.le_refl _) _).alloc (by simp) _).alloc (by simp; omega) _).alloc (by simp; omega) _
  have bb : Below ((((w.alloc (.cells #[.int .i64 t0, .int .i64 n0, .string s0] 23)).alloc (.cells #[.int .i64 t1, .int .i64 n1, .string s1] 23)).alloc (.cells #[.int .i64 t2, .int .i64 n2, .string s2] 23)).alloc (.cells #[.int .i64 t0, .int .i64 n0, .string s0, .int .i64 t1, .int .i64 n1, .string s1, .int .i64 t2, .int .i64 n2, .string s2] 23)).heap.size ((((w.alloc (.cells #[.int .i64 t0, .int .i64 n0, .string s0] 23)).alloc (.cells #[.int .i64 t1, .int .i64 n1, .string s1] 23)).alloc (.cells #[.int .i64 t2, .int .i64 n2, .string s2] 23)).alloc (.cells #[.int .i64 t0, .int .i64 n0, .string s0, .int .i64 t1, .int .i64 n1, .string s1, .int .i64 t2, .int .i64 n2, .string s2] 23)) ((((w.alloc (.cells #[.int .i64 t0, .int .i64 n0, .string s0] 23)).alloc (.cells #[.int .i64 t1, .int .i64 n1, .string s1] 23)).alloc (.cells #[.int .i64 t2, .int .i64 n2, .string s2] 23)).alloc (.cells #[.int .i64 t0, .int .i64 n0, .string s0, .int .i64 t1, .int .i64 n1, .string s1, .int .i64 t2, .int .i64 n2, .string s2] 23)) := Below.refl _ _
  have k : Below ((((w.alloc (.cells #[.int .i64 t0, .int .i64 n0, .string s0] 23)).alloc (.cells #[.int .i64 t1, .int .i64 n1, .string s1] 23)).alloc (.cells #[.int .i64 t2, .int .i64 n2, .string s2] 23)).alloc (.cells #[.int .i64 t0, .int .i64 n0, .string s0, .int .i64 t1, .int .i64 n1, .string s1, .int .i64 t2, .int .i64 n2, .string s2] 23)).heap.size ((((w.alloc (.cells #[.int .i64 t0, .int .i64 n0, .string s0] 23)).alloc (.cells #[.int .i64 t1, .int .i64 n1, .string s1] 23)).alloc (.cells #[.int .i64 t2, .int .i64 n2, .string s2] 23)).alloc (.cells #[.int .i64 t0, .int .i64 n0, .string s0, .int .i64 t1, .int .i64 n1, .string s1, .int .i64 t2, .int .i64 n2, .string s2] 23)) (((((w.alloc (.cells #[.int .i64 t0, .int .i64 n0, .string s0] 23)).alloc (.cells #[.int .i64 t1, .int .i64 n1, .string s1] 23)).alloc (.cells #[.int .i64 t2, .int .i64 n2, .string s2] 23)).alloc (.cells #[.int .i64 t0, .int .i64 n0, .string s0, .int .i64 t1, .int .i64 n1, .string s1, .int .i64 t2, .int .i64 n2, .string s2] 23)).alloc (.cells #[.int .i64 t0, .int .i64 n0, .string s0] 23)) := (Below.refl _ _).alloc (Nat.le_refl _) _
  replace b := btrans b k
  replace bb := btrans bb k
  clear k
  have pv : At (((((w.alloc (.cells #[.int .i64 t0, .int .i64 n0, .string s0] 23)).alloc (.cells #[.int .i64 t1, .int .i64 n1, .string s1] 23)).alloc (.cells #[.int .i64 t2, .int .i64 n2, .string s2] 23)).alloc (.cells #[.int .i64 t0, .int .i64 n0, .string s0, .int .i64 t1, .int .i64 n1, .string s1, .int .i64 t2, .int .i64 n2, .string s2] 23)).alloc (.cells #[.int .i64 t0, .int .i64 n0, .string s0] 23)) (w.heap.size + 1 + 1 + 1 + 1) t0 n0 s0 := by simpa using At.alloc ((((w.alloc (.cells #[.int .i64 t0, .int .i64 n0, .string s0] 23)).alloc (.cells #[.int .i64 t1, .int .i64 n1, .string s1] 23)).alloc (.cells #[.int .i64 t2, .int .i64 n2, .string s2] 23)).alloc (.cells #[.int .i64 t0, .int .i64 n0, .string s0, .int .i64 t1, .int .i64 n1, .string s1, .int .i64 t2, .int .i64 n2, .string s2] 23)) t0 n0 s0
  refine (lawRight_any _ _ _ _).mono ?_
  rintro e w1 ⟨rfl, k⟩
  replace b := btrans b k
  replace bb := btrans bb k
  replace pv := pv.keep k
  clear k
  obtain ⟨hcb, hfb⟩ := bcell bb
  have zb : w.heap.size + 1 + 1 + 1 + 1 ≤ w1.heap.size := by have := bb.size; simp at this; omega
  have zb0 : w.heap.size < w1.heap.size := by omega
  have zb1 : w.heap.size + 1 < w1.heap.size := by omega
  have zb2 : w.heap.size + 1 + 1 < w1.heap.size := by omega
  have zb3 : w.heap.size + 1 + 1 + 1 < w1.heap.size := by omega
  clear zb
  have qpv : _ ∧ _ ∧ _ := pv
  have zpv : w.heap.size + 1 + 1 + 1 + 1 < w1.heap.size := block_lt_of_cell pv.1
  go_wp2_with fail
  clear qpv zpv
  clear hcb hfb zb0 zb1 zb2 zb3
  clear pv
  refine (alive_any _).mono ?_
  rintro e w2 ⟨rfl, k⟩
  replace b := btrans b k
  replace bb := btrans bb k
  clear k
  go_wp2_with fail
  go_ret
  exact ⟨rfl, b⟩

set_option maxRecDepth 100000 in
set_option maxHeartbeats 2000000 in
theorem laws0b (t0 n0 : Int) (s0 : ByteArray) (t1 n1 : Int) (s1 : ByteArray) (t2 n2 : Int) (s2 : ByteArray) (r0 : (rightE t0 n0 s0 == 0) = true) (g0 : 1 < t0) (w : World) :
    Calls Try.prog 4 #[V t0 n0 s0, V t1 n1 s1, V t2 n2 s2] w fun e w' => e = .returned (.bool true) ∧ Below w.heap.size w w' := by
  go_enter Try.func4, Try.ntmps4
  have b : Below w.heap.size w w := Below.refl _ _
  go_wp2_with fail
  refine wp_loop_rounds 4 ?_
  rw [rounds_succ]
  go_wp2_with fail
  replace b : Below w.heap.size w ((((w.alloc (.cells #[.int .i64 t0, .int .i64 n0, .string s0] 23)).alloc (.cells #[.int .i64 t1, .int .i64 n1, .string s1] 23)).alloc (.cells #[.int .i64 t2, .int .i64 n2, .string s2] 23)).alloc (.cells #[.int .i64 t0, .int .i64 n0, .string s0, .int .i64 t1, .int .i64 n1, .string s1, .int .i64 t2, .int .i64 n2, .string s2] 23)) := ((((Below.refl _ _).alloc (Nat.le_refl _) _).alloc (by simp) _).alloc (by simp; omega) _).alloc (by simp; omega) _
  have bb : Below ((((w.alloc (.cells #[.int .i64 t0, .int .i64 n0, .string s0] 23)).alloc (.cells #[.int .i64 t1, .int .i64 n1, .string s1] 23)).alloc (.cells #[.int .i64 t2, .int .i64 n2, .string s2] 23)).alloc (.cells #[.int .i64 t0, .int .i64 n0, .string s0, .int .i64 t1, .int .i64 n1, .string s1, .int .i64 t2, .int .i64 n2, .string s2] 23)).heap.size ((((w.alloc (.cells #[.int .i64 t0, .int .i64 n0, .string s0] 23)).alloc (.cells #[.int .i64 t1, .int .i64 n1, .string s1] 23)).alloc (.cells #[.int .i64 t2, .int .i64 n2, .string s2] 23)).alloc (.cells #[.int .i64 t0, .int .i64 n0, .string s0, .int .i64 t1, .int .i64 n1, .string s1, .int .i64 t2, .int .i64 n2, .string s2] 23)) ((((w.alloc (.cells #[.int .i64 t0, .int .i64 n0, .string s0] 23)).alloc (.cells #[.int .i64 t1, .int .i64 n1, .string s1] 23)).alloc (.cells #[.int .i64 t2, .int .i64 n2, .string s2] 23)).alloc (.cells #[.int .i64 t0, .int .i64 n0, .string s0, .int .i64 t1, .int .i64 n1, .string s1, .int .i64 t2, .int .i64 n2, .string s2] 23)) := Below.refl _ _
  have k : Below ((((w.alloc (.cells #[.int .i64 t0, .int .i64 n0, .string s0] 23)).alloc (.cells #[.int .i64 t1, .int .i64 n1, .string s1] 23)).alloc (.cells #[.int .i64 t2, .int .i64 n2, .string s2] 23)).alloc (.cells #[.int .i64 t0, .int .i64 n0, .string s0, .int .i64 t1, .int .i64 n1, .string s1, .int .i64 t2, .int .i64 n2, .string s2] 23)).heap.size ((((w.alloc (.cells #[.int .i64 t0, .int .i64 n0, .string s0] 23)).alloc (.cells #[.int .i64 t1, .int .i64 n1, .string s1] 23)).alloc (.cells #[.int .i64 t2, .int .i64 n2, .string s2] 23)).alloc (.cells #[.int .i64 t0, .int .i64 n0, .string s0, .int .i64 t1, .int .i64 n1, .string s1, .int .i64 t2, .int .i64 n2, .string s2] 23)) (((((w.alloc (.cells #[.int .i64 t0, .int .i64 n0, .string s0] 23)).alloc (.cells #[.int .i64 t1, .int .i64 n1, .string s1] 23)).alloc (.cells #[.int .i64 t2, .int .i64 n2, .string s2] 23)).alloc (.cells #[.int .i64 t0, .int .i64 n0, .string s0, .int .i64 t1, .int .i64 n1, .string s1, .int .i64 t2, .int .i64 n2, .string s2] 23)).alloc (.cells #[.int .i64 t0, .int .i64 n0, .string s0] 23)) := (Below.refl _ _).alloc (Nat.le_refl _) _
  replace b := btrans b k
  replace bb := btrans bb k
  clear k
  have pv : At (((((w.alloc (.cells #[.int .i64 t0, .int .i64 n0, .string s0] 23)).alloc (.cells #[.int .i64 t1, .int .i64 n1, .string s1] 23)).alloc (.cells #[.int .i64 t2, .int .i64 n2, .string s2] 23)).alloc (.cells #[.int .i64 t0, .int .i64 n0, .string s0, .int .i64 t1, .int .i64 n1, .string s1, .int .i64 t2, .int .i64 n2, .string s2] 23)).alloc (.cells #[.int .i64 t0, .int .i64 n0, .string s0] 23)) (w.heap.size + 1 + 1 + 1 + 1) t0 n0 s0 := by simpa using At.alloc ((((w.alloc (.cells #[.int .i64 t0, .int .i64 n0, .string s0] 23)).alloc (.cells #[.int .i64 t1, .int .i64 n1, .string s1] 23)).alloc (.cells #[.int .i64 t2, .int .i64 n2, .string s2] 23)).alloc (.cells #[.int .i64 t0, .int .i64 n0, .string s0, .int .i64 t1, .int .i64 n1, .string s1, .int .i64 t2, .int .i64 n2, .string s2] 23)) t0 n0 s0
  refine (lawRight_any _ _ _ _).mono ?_
  rintro e w1 ⟨rfl, k⟩
  replace b := btrans b k
  replace bb := btrans bb k
  replace pv := pv.keep k
  clear k
  obtain ⟨hcb, hfb⟩ := bcell bb
  have zb : w.heap.size + 1 + 1 + 1 + 1 ≤ w1.heap.size := by have := bb.size; simp at this; omega
  have zb0 : w.heap.size < w1.heap.size := by omega
  have zb1 : w.heap.size + 1 < w1.heap.size := by omega
  have zb2 : w.heap.size + 1 + 1 < w1.heap.size := by omega
  have zb3 : w.heap.size + 1 + 1 + 1 < w1.heap.size := by omega
  clear zb
  have qpv : _ ∧ _ ∧ _ := pv
  have zpv : w.heap.size + 1 + 1 + 1 + 1 < w1.heap.size := block_lt_of_cell pv.1
  go_wp2_with fail
  clear qpv zpv
  clear hcb hfb zb0 zb1 zb2 zb3
  clear pv
  refine (alive_any _).mono ?_
  rintro e w2 ⟨rfl, k⟩
  replace b := btrans b k
  replace bb := btrans bb k
  clear k
  go_wp2_with fail
  go_ret
  exact ⟨rfl, b⟩

set_option maxRecDepth 100000 in
set_option maxHeartbeats 2000000 in
theorem laws1a (t0 n0 : Int) (s0 : ByteArray) (t1 n1 : Int) (s1 : ByteArray) (t2 n2 : Int) (s2 : ByteArray) (r0 : (rightE t0 n0 s0 == 0) = true) (g0 : t0 ≤ 1) (r1 : (rightE t1 n1 s1 == 0) = false) (w : World) :
    Calls Try.prog 4 #[V t0 n0 s0, V t1 n1 s1, V t2 n2 s2] w fun e w' => e = .returned (.bool true) ∧ Below w.heap.size w w' := by
  go_enter Try.func4, Try.ntmps4
  have b : Below w.heap.size w w := Below.refl _ _
  go_wp2_with fail
  refine wp_loop_rounds 4 ?_
  rw [rounds_succ]
  go_wp2_with fail
  replace b : Below w.heap.size w ((((w.alloc (.cells #[.int .i64 t0, .int .i64 n0, .string s0] 23)).alloc (.cells #[.int .i64 t1, .int .i64 n1, .string s1] 23)).alloc (.cells #[.int .i64 t2, .int .i64 n2, .string s2] 23)).alloc (.cells #[.int .i64 t0, .int .i64 n0, .string s0, .int .i64 t1, .int .i64 n1, .string s1, .int .i64 t2, .int .i64 n2, .string s2] 23)) := ((((Below.refl _ _).alloc (Nat.le_refl _) _).alloc (by simp) _).alloc (by simp; omega) _).alloc (by simp; omega) _
  have bb : Below ((((w.alloc (.cells #[.int .i64 t0, .int .i64 n0, .string s0] 23)).alloc (.cells #[.int .i64 t1, .int .i64 n1, .string s1] 23)).alloc (.cells #[.int .i64 t2, .int .i64 n2, .string s2] 23)).alloc (.cells #[.int .i64 t0, .int .i64 n0, .string s0, .int .i64 t1, .int .i64 n1, .string s1, .int .i64 t2, .int .i64 n2, .string s2] 23)).heap.size ((((w.alloc (.cells #[.int .i64 t0, .int .i64 n0, .string s0] 23)).alloc (.cells #[.int .i64 t1, .int .i64 n1, .string s1] 23)).alloc (.cells #[.int .i64 t2, .int .i64 n2, .string s2] 23)).alloc (.cells #[.int .i64 t0, .int .i64 n0, .string s0, .int .i64 t1, .int .i64 n1, .string s1, .int .i64 t2, .int .i64 n2, .string s2] 23)) ((((w.alloc (.cells #[.int .i64 t0, .int .i64 n0, .string s0] 23)).alloc (.cells #[.int .i64 t1, .int .i64 n1, .string s1] 23)).alloc (.cells #[.int .i64 t2, .int .i64 n2, .string s2] 23)).alloc (.cells #[.int .i64 t0, .int .i64 n0, .string s0, .int .i64 t1, .int .i64 n1, .string s1, .int .i64 t2, .int .i64 n2, .string s2] 23)) := Below.refl _ _
  have k : Below ((((w.alloc (.cells #[.int .i64 t0, .int .i64 n0, .string s0] 23)).alloc (.cells #[.int .i64 t1, .int .i64 n1, .string s1] 23)).alloc (.cells #[.int .i64 t2, .int .i64 n2, .string s2] 23)).alloc (.cells #[.int .i64 t0, .int .i64 n0, .string s0, .int .i64 t1, .int .i64 n1, .string s1, .int .i64 t2, .int .i64 n2, .string s2] 23)).heap.size ((((w.alloc (.cells #[.int .i64 t0, .int .i64 n0, .string s0] 23)).alloc (.cells #[.int .i64 t1, .int .i64 n1, .string s1] 23)).alloc (.cells #[.int .i64 t2, .int .i64 n2, .string s2] 23)).alloc (.cells #[.int .i64 t0, .int .i64 n0, .string s0, .int .i64 t1, .int .i64 n1, .string s1, .int .i64 t2, .int .i64 n2, .string s2] 23)) (((((w.alloc (.cells #[.int .i64 t0, .int .i64 n0, .string s0] 23)).alloc (.cells #[.int .i64 t1, .int .i64 n1, .string s1] 23)).alloc (.cells #[.int .i64 t2, .int .i64 n2, .string s2] 23)).alloc (.cells #[.int .i64 t0, .int .i64 n0, .string s0, .int .i64 t1, .int .i64 n1, .string s1, .int .i64 t2, .int .i64 n2, .string s2] 23)).alloc (.cells #[.int .i64 t0, .int .i64 n0, .string s0] 23)) := (Below.refl _ _).alloc (Nat.le_refl _) _
  replace b := btrans b k
  replace bb := btrans bb k
  clear k
  have pv : At (((((w.alloc (.cells #[.int .i64 t0, .int .i64 n0, .string s0] 23)).alloc (.cells #[.int .i64 t1, .int .i64 n1, .string s1] 23)).alloc (.cells #[.int .i64 t2, .int .i64 n2, .string s2] 23)).alloc (.cells #[.int .i64 t0, .int .i64 n0, .string s0, .int .i64 t1, .int .i64 n1, .string s1, .int .i64 t2, .int .i64 n2, .string s2] 23)).alloc (.cells #[.int .i64 t0, .int .i64 n0, .string s0] 23)) (w.heap.size + 1 + 1 + 1 + 1) t0 n0 s0 := by simpa using At.alloc ((((w.alloc (.cells #[.int .i64 t0, .int .i64 n0, .string s0] 23)).alloc (.cells #[.int .i64 t1, .int .i64 n1, .string s1] 23)).alloc (.cells #[.int .i64 t2, .int .i64 n2, .string s2] 23)).alloc (.cells #[.int .i64 t0, .int .i64 n0, .string s0, .int .i64 t1, .int .i64 n1, .string s1, .int .i64 t2, .int .i64 n2, .string s2] 23)) t0 n0 s0
  refine (lawRight_any _ _ _ _).mono ?_
  rintro e w1 ⟨rfl, k⟩
  replace b := btrans b k
  replace bb := btrans bb k
  replace pv := pv.keep k
  clear k
  obtain ⟨hcb, hfb⟩ := bcell bb
  have zb : w.heap.size + 1 + 1 + 1 + 1 ≤ w1.heap.size := by have := bb.size; simp at this; omega
  have zb0 : w.heap.size < w1.heap.size := by omega
  have zb1 : w.heap.size + 1 < w1.heap.size := by omega
  have zb2 : w.heap.size + 1 + 1 < w1.heap.size := by omega
  have zb3 : w.heap.size + 1 + 1 + 1 < w1.heap.size := by omega
  clear zb
  have qpv : _ ∧ _ ∧ _ := pv
  have zpv : w.heap.size + 1 + 1 + 1 + 1 < w1.heap.size := block_lt_of_cell pv.1
  go_wp2_with fail
  rw [rounds_succ]
  go_wp2_with fail
  clear qpv zpv
  clear hcb hfb zb0 zb1 zb2 zb3
  clear pv
  have k : Below w1.heap.size w1 (w1.alloc (.cells #[.int .i64 t1, .int .i64 n1, .string s1] 23)) := (Below.refl _ _).alloc (Nat.le_refl _) _
  replace b := btrans b k
  replace bb := btrans bb k
  clear k
  have pv := At.alloc w1 t1 n1 s1
  refine (lawRight_any _ _ _ _).mono ?_
  rintro e w2 ⟨rfl, k⟩
  replace b := btrans b k
  replace bb := btrans bb k
  replace pv := pv.keep k
  clear k
  obtain ⟨hcb, hfb⟩ := bcell bb
  have zb : w.heap.size + 1 + 1 + 1 + 1 ≤ w2.heap.size := by have := bb.size; simp at this; omega
  have zb0 : w.heap.size < w2.heap.size := by omega
  have zb1 : w.heap.size + 1 < w2.heap.size := by omega
  have zb2 : w.heap.size + 1 + 1 < w2.heap.size := by omega
  have zb3 : w.heap.size + 1 + 1 + 1 < w2.heap.size := by omega
  clear zb
  have qpv : _ ∧ _ ∧ _ := pv
  have zpv : w1.heap.size < w2.heap.size := block_lt_of_cell pv.1
  go_wp2_with fail
  clear qpv zpv
  clear hcb hfb zb0 zb1 zb2 zb3
  clear pv
  refine (alive_any _).mono ?_
  rintro e w3 ⟨rfl, k⟩
  replace b := btrans b k
  replace bb := btrans bb k
  clear k
  go_wp2_with fail
  go_ret
  exact ⟨rfl, b⟩

set_option maxRecDepth 100000 in
set_option maxHeartbeats 2000000 in
theorem laws1b (t0 n0 : Int) (s0 : ByteArray) (t1 n1 : Int) (s1 : ByteArray) (t2 n2 : Int) (s2 : ByteArray) (r0 : (rightE t0 n0 s0 == 0) = true) (g0 : t0 ≤ 1) (r1 : (rightE t1 n1 s1 == 0) = true) (g1 : 1 < t1) (w : World) :
    Calls Try.prog 4 #[V t0 n0 s0, V t1 n1 s1, V t2 n2 s2] w fun e w' => e = .returned (.bool true) ∧ Below w.heap.size w w' := by
  go_enter Try.func4, Try.ntmps4
  have b : Below w.heap.size w w := Below.refl _ _
  go_wp2_with fail
  refine wp_loop_rounds 4 ?_
  rw [rounds_succ]
  go_wp2_with fail
  replace b : Below w.heap.size w ((((w.alloc (.cells #[.int .i64 t0, .int .i64 n0, .string s0] 23)).alloc (.cells #[.int .i64 t1, .int .i64 n1, .string s1] 23)).alloc (.cells #[.int .i64 t2, .int .i64 n2, .string s2] 23)).alloc (.cells #[.int .i64 t0, .int .i64 n0, .string s0, .int .i64 t1, .int .i64 n1, .string s1, .int .i64 t2, .int .i64 n2, .string s2] 23)) := ((((Below.refl _ _).alloc (Nat.le_refl _) _).alloc (by simp) _).alloc (by simp; omega) _).alloc (by simp; omega) _
  have bb : Below ((((w.alloc (.cells #[.int .i64 t0, .int .i64 n0, .string s0] 23)).alloc (.cells #[.int .i64 t1, .int .i64 n1, .string s1] 23)).alloc (.cells #[.int .i64 t2, .int .i64 n2, .string s2] 23)).alloc (.cells #[.int .i64 t0, .int .i64 n0, .string s0, .int .i64 t1, .int .i64 n1, .string s1, .int .i64 t2, .int .i64 n2, .string s2] 23)).heap.size ((((w.alloc (.cells #[.int .i64 t0, .int .i64 n0, .string s0] 23)).alloc (.cells #[.int .i64 t1, .int .i64 n1, .string s1] 23)).alloc (.cells #[.int .i64 t2, .int .i64 n2, .string s2] 23)).alloc (.cells #[.int .i64 t0, .int .i64 n0, .string s0, .int .i64 t1, .int .i64 n1, .string s1, .int .i64 t2, .int .i64 n2, .string s2] 23)) ((((w.alloc (.cells #[.int .i64 t0, .int .i64 n0, .string s0] 23)).alloc (.cells #[.int .i64 t1, .int .i64 n1, .string s1] 23)).alloc (.cells #[.int .i64 t2, .int .i64 n2, .string s2] 23)).alloc (.cells #[.int .i64 t0, .int .i64 n0, .string s0, .int .i64 t1, .int .i64 n1, .string s1, .int .i64 t2, .int .i64 n2, .string s2] 23)) := Below.refl _ _
  have k : Below ((((w.alloc (.cells #[.int .i64 t0, .int .i64 n0, .string s0] 23)).alloc (.cells #[.int .i64 t1, .int .i64 n1, .string s1] 23)).alloc (.cells #[.int .i64 t2, .int .i64 n2, .string s2] 23)).alloc (.cells #[.int .i64 t0, .int .i64 n0, .string s0, .int .i64 t1, .int .i64 n1, .string s1, .int .i64 t2, .int .i64 n2, .string s2] 23)).heap.size ((((w.alloc (.cells #[.int .i64 t0, .int .i64 n0, .string s0] 23)).alloc (.cells #[.int .i64 t1, .int .i64 n1, .string s1] 23)).alloc (.cells #[.int .i64 t2, .int .i64 n2, .string s2] 23)).alloc (.cells #[.int .i64 t0, .int .i64 n0, .string s0, .int .i64 t1, .int .i64 n1, .string s1, .int .i64 t2, .int .i64 n2, .string s2] 23)) (((((w.alloc (.cells #[.int .i64 t0, .int .i64 n0, .string s0] 23)).alloc (.cells #[.int .i64 t1, .int .i64 n1, .string s1] 23)).alloc (.cells #[.int .i64 t2, .int .i64 n2, .string s2] 23)).alloc (.cells #[.int .i64 t0, .int .i64 n0, .string s0, .int .i64 t1, .int .i64 n1, .string s1, .int .i64 t2, .int .i64 n2, .string s2] 23)).alloc (.cells #[.int .i64 t0, .int .i64 n0, .string s0] 23)) := (Below.refl _ _).alloc (Nat.le_refl _) _
  replace b := btrans b k
  replace bb := btrans bb k
  clear k
  have pv : At (((((w.alloc (.cells #[.int .i64 t0, .int .i64 n0, .string s0] 23)).alloc (.cells #[.int .i64 t1, .int .i64 n1, .string s1] 23)).alloc (.cells #[.int .i64 t2, .int .i64 n2, .string s2] 23)).alloc (.cells #[.int .i64 t0, .int .i64 n0, .string s0, .int .i64 t1, .int .i64 n1, .string s1, .int .i64 t2, .int .i64 n2, .string s2] 23)).alloc (.cells #[.int .i64 t0, .int .i64 n0, .string s0] 23)) (w.heap.size + 1 + 1 + 1 + 1) t0 n0 s0 := by simpa using At.alloc ((((w.alloc (.cells #[.int .i64 t0, .int .i64 n0, .string s0] 23)).alloc (.cells #[.int .i64 t1, .int .i64 n1, .string s1] 23)).alloc (.cells #[.int .i64 t2, .int .i64 n2, .string s2] 23)).alloc (.cells #[.int .i64 t0, .int .i64 n0, .string s0, .int .i64 t1, .int .i64 n1, .string s1, .int .i64 t2, .int .i64 n2, .string s2] 23)) t0 n0 s0
  refine (lawRight_any _ _ _ _).mono ?_
  rintro e w1 ⟨rfl, k⟩
  replace b := btrans b k
  replace bb := btrans bb k
  replace pv := pv.keep k
  clear k
  obtain ⟨hcb, hfb⟩ := bcell bb
  have zb : w.heap.size + 1 + 1 + 1 + 1 ≤ w1.heap.size := by have := bb.size; simp at this; omega
  have zb0 : w.heap.size < w1.heap.size := by omega
  have zb1 : w.heap.size + 1 < w1.heap.size := by omega
  have zb2 : w.heap.size + 1 + 1 < w1.heap.size := by omega
  have zb3 : w.heap.size + 1 + 1 + 1 < w1.heap.size := by omega
  clear zb
  have qpv : _ ∧ _ ∧ _ := pv
  have zpv : w.heap.size + 1 + 1 + 1 + 1 < w1.heap.size := block_lt_of_cell pv.1
  go_wp2_with fail
  rw [rounds_succ]
  go_wp2_with fail
  clear qpv zpv
  clear hcb hfb zb0 zb1 zb2 zb3
  clear pv
  have k : Below w1.heap.size w1 (w1.alloc (.cells #[.int .i64 t1, .int .i64 n1, .string s1] 23)) := (Below.refl _ _).alloc (Nat.le_refl _) _
  replace b := btrans b k
  replace bb := btrans bb k
  clear k
  have pv := At.alloc w1 t1 n1 s1
  refine (lawRight_any _ _ _ _).mono ?_
  rintro e w2 ⟨rfl, k⟩
  replace b := btrans b k
  replace bb := btrans bb k
  replace pv := pv.keep k
  clear k
  obtain ⟨hcb, hfb⟩ := bcell bb
  have zb : w.heap.size + 1 + 1 + 1 + 1 ≤ w2.heap.size := by have := bb.size; simp at this; omega
  have zb0 : w.heap.size < w2.heap.size := by omega
  have zb1 : w.heap.size + 1 < w2.heap.size := by omega
  have zb2 : w.heap.size + 1 + 1 < w2.heap.size := by omega
  have zb3 : w.heap.size + 1 + 1 + 1 < w2.heap.size := by omega
  clear zb
  have qpv : _ ∧ _ ∧ _ := pv
  have zpv : w1.heap.size < w2.heap.size := block_lt_of_cell pv.1
  go_wp2_with fail
  clear qpv zpv
  clear hcb hfb zb0 zb1 zb2 zb3
  clear pv
  refine (alive_any _).mono ?_
  rintro e w3 ⟨rfl, k⟩
  replace b := btrans b k
  replace bb := btrans bb k
  clear k
  go_wp2_with fail
  go_ret
  exact ⟨rfl, b⟩

set_option maxRecDepth 100000 in
set_option maxHeartbeats 2000000 in
theorem laws2a (t0 n0 : Int) (s0 : ByteArray) (t1 n1 : Int) (s1 : ByteArray) (t2 n2 : Int) (s2 : ByteArray) (r0 : (rightE t0 n0 s0 == 0) = true) (g0 : t0 ≤ 1) (r1 : (rightE t1 n1 s1 == 0) = true) (g1 : t1 ≤ 1) (r2 : (rightE t2 n2 s2 == 0) = false) (w : World) :
    Calls Try.prog 4 #[V t0 n0 s0, V t1 n1 s1, V t2 n2 s2] w fun e w' => e = .returned (.bool true) ∧ Below w.heap.size w w' := by
  go_enter Try.func4, Try.ntmps4
  have b : Below w.heap.size w w := Below.refl _ _
  go_wp2_with fail
  refine wp_loop_rounds 4 ?_
  rw [rounds_succ]
  go_wp2_with fail
  replace b : Below w.heap.size w ((((w.alloc (.cells #[.int .i64 t0, .int .i64 n0, .string s0] 23)).alloc (.cells #[.int .i64 t1, .int .i64 n1, .string s1] 23)).alloc (.cells #[.int .i64 t2, .int .i64 n2, .string s2] 23)).alloc (.cells #[.int .i64 t0, .int .i64 n0, .string s0, .int .i64 t1, .int .i64 n1, .string s1, .int .i64 t2, .int .i64 n2, .string s2] 23)) := ((((Below.refl _ _).alloc (Nat.le_refl _) _).alloc (by simp) _).alloc (by simp; omega) _).alloc (by simp; omega) _
  have bb : Below ((((w.alloc (.cells #[.int .i64 t0, .int .i64 n0, .string s0] 23)).alloc (.cells #[.int .i64 t1, .int .i64 n1, .string s1] 23)).alloc (.cells #[.int .i64 t2, .int .i64 n2, .string s2] 23)).alloc (.cells #[.int .i64 t0, .int .i64 n0, .string s0, .int .i64 t1, .int .i64 n1, .string s1, .int .i64 t2, .int .i64 n2, .string s2] 23)).heap.size ((((w.alloc (.cells #[.int .i64 t0, .int .i64 n0, .string s0] 23)).alloc (.cells #[.int .i64 t1, .int .i64 n1, .string s1] 23)).alloc (.cells #[.int .i64 t2, .int .i64 n2, .string s2] 23)).alloc (.cells #[.int .i64 t0, .int .i64 n0, .string s0, .int .i64 t1, .int .i64 n1, .string s1, .int .i64 t2, .int .i64 n2, .string s2] 23)) ((((w.alloc (.cells #[.int .i64 t0, .int .i64 n0, .string s0] 23)).alloc (.cells #[.int .i64 t1, .int .i64 n1, .string s1] 23)).alloc (.cells #[.int .i64 t2, .int .i64 n2, .string s2] 23)).alloc (.cells #[.int .i64 t0, .int .i64 n0, .string s0, .int .i64 t1, .int .i64 n1, .string s1, .int .i64 t2, .int .i64 n2, .string s2] 23)) := Below.refl _ _
  have k : Below ((((w.alloc (.cells #[.int .i64 t0, .int .i64 n0, .string s0] 23)).alloc (.cells #[.int .i64 t1, .int .i64 n1, .string s1] 23)).alloc (.cells #[.int .i64 t2, .int .i64 n2, .string s2] 23)).alloc (.cells #[.int .i64 t0, .int .i64 n0, .string s0, .int .i64 t1, .int .i64 n1, .string s1, .int .i64 t2, .int .i64 n2, .string s2] 23)).heap.size ((((w.alloc (.cells #[.int .i64 t0, .int .i64 n0, .string s0] 23)).alloc (.cells #[.int .i64 t1, .int .i64 n1, .string s1] 23)).alloc (.cells #[.int .i64 t2, .int .i64 n2, .string s2] 23)).alloc (.cells #[.int .i64 t0, .int .i64 n0, .string s0, .int .i64 t1, .int .i64 n1, .string s1, .int .i64 t2, .int .i64 n2, .string s2] 23)) (((((w.alloc (.cells #[.int .i64 t0, .int .i64 n0, .string s0] 23)).alloc (.cells #[.int .i64 t1, .int .i64 n1, .string s1] 23)).alloc (.cells #[.int .i64 t2, .int .i64 n2, .string s2] 23)).alloc (.cells #[.int .i64 t0, .int .i64 n0, .string s0, .int .i64 t1, .int .i64 n1, .string s1, .int .i64 t2, .int .i64 n2, .string s2] 23)).alloc (.cells #[.int .i64 t0, .int .i64 n0, .string s0] 23)) := (Below.refl _ _).alloc (Nat.le_refl _) _
  replace b := btrans b k
  replace bb := btrans bb k
  clear k
  have pv : At (((((w.alloc (.cells #[.int .i64 t0, .int .i64 n0, .string s0] 23)).alloc (.cells #[.int .i64 t1, .int .i64 n1, .string s1] 23)).alloc (.cells #[.int .i64 t2, .int .i64 n2, .string s2] 23)).alloc (.cells #[.int .i64 t0, .int .i64 n0, .string s0, .int .i64 t1, .int .i64 n1, .string s1, .int .i64 t2, .int .i64 n2, .string s2] 23)).alloc (.cells #[.int .i64 t0, .int .i64 n0, .string s0] 23)) (w.heap.size + 1 + 1 + 1 + 1) t0 n0 s0 := by simpa using At.alloc ((((w.alloc (.cells #[.int .i64 t0, .int .i64 n0, .string s0] 23)).alloc (.cells #[.int .i64 t1, .int .i64 n1, .string s1] 23)).alloc (.cells #[.int .i64 t2, .int .i64 n2, .string s2] 23)).alloc (.cells #[.int .i64 t0, .int .i64 n0, .string s0, .int .i64 t1, .int .i64 n1, .string s1, .int .i64 t2, .int .i64 n2, .string s2] 23)) t0 n0 s0
  refine (lawRight_any _ _ _ _).mono ?_
  rintro e w1 ⟨rfl, k⟩
  replace b := btrans b k
  replace bb := btrans bb k
  replace pv := pv.keep k
  clear k
  obtain ⟨hcb, hfb⟩ := bcell bb
  have zb : w.heap.size + 1 + 1 + 1 + 1 ≤ w1.heap.size := by have := bb.size; simp at this; omega
  have zb0 : w.heap.size < w1.heap.size := by omega
  have zb1 : w.heap.size + 1 < w1.heap.size := by omega
  have zb2 : w.heap.size + 1 + 1 < w1.heap.size := by omega
  have zb3 : w.heap.size + 1 + 1 + 1 < w1.heap.size := by omega
  clear zb
  have qpv : _ ∧ _ ∧ _ := pv
  have zpv : w.heap.size + 1 + 1 + 1 + 1 < w1.heap.size := block_lt_of_cell pv.1
  go_wp2_with fail
  rw [rounds_succ]
  go_wp2_with fail
  clear qpv zpv
  clear hcb hfb zb0 zb1 zb2 zb3
  clear pv
  have k : Below w1.heap.size w1 (w1.alloc (.cells #[.int .i64 t1, .int .i64 n1, .string s1] 23)) := (Below.refl _ _).alloc (Nat.le_refl _) _
  replace b := btrans b k
  replace bb := btrans bb k
  clear k
  have pv := At.alloc w1 t1 n1 s1
  refine (lawRight_any _ _ _ _).mono ?_
  rintro e w2 ⟨rfl, k⟩
  replace b := btrans b k
  replace bb := btrans bb k
  replace pv := pv.keep k
  clear k
  obtain ⟨hcb, hfb⟩ := bcell bb
  have zb : w.heap.size + 1 + 1 + 1 + 1 ≤ w2.heap.size := by have := bb.size; simp at this; omega
  have zb0 : w.heap.size < w2.heap.size := by omega
  have zb1 : w.heap.size + 1 < w2.heap.size := by omega
  have zb2 : w.heap.size + 1 + 1 < w2.heap.size := by omega
  have zb3 : w.heap.size + 1 + 1 + 1 < w2.heap.size := by omega
  clear zb
  have qpv : _ ∧ _ ∧ _ := pv
  have zpv : w1.heap.size < w2.heap.size := block_lt_of_cell pv.1
  go_wp2_with fail
  rw [rounds_succ]
  go_wp2_with fail
  clear qpv zpv
  clear hcb hfb zb0 zb1 zb2 zb3
  clear pv
  have k : Below w2.heap.size w2 (w2.alloc (.cells #[.int .i64 t2, .int .i64 n2, .string s2] 23)) := (Below.refl _ _).alloc (Nat.le_refl _) _
  replace b := btrans b k
  replace bb := btrans bb k
  clear k
  have pv := At.alloc w2 t2 n2 s2
  refine (lawRight_any _ _ _ _).mono ?_
  rintro e w3 ⟨rfl, k⟩
  replace b := btrans b k
  replace bb := btrans bb k
  replace pv := pv.keep k
  clear k
  obtain ⟨hcb, hfb⟩ := bcell bb
  have zb : w.heap.size + 1 + 1 + 1 + 1 ≤ w3.heap.size := by have := bb.size; simp at this; omega
  have zb0 : w.heap.size < w3.heap.size := by omega
  have zb1 : w.heap.size + 1 < w3.heap.size := by omega
  have zb2 : w.heap.size + 1 + 1 < w3.heap.size := by omega
  have zb3 : w.heap.size + 1 + 1 + 1 < w3.heap.size := by omega
  clear zb
  have qpv : _ ∧ _ ∧ _ := pv
  have zpv : w2.heap.size < w3.heap.size := block_lt_of_cell pv.1
  go_wp2_with fail
  clear qpv zpv
  clear hcb hfb zb0 zb1 zb2 zb3
  clear pv
  refine (alive_any _).mono ?_
  rintro e w4 ⟨rfl, k⟩
  replace b := btrans b k
  replace bb := btrans bb k
  clear k
  go_wp2_with fail
  go_ret
  exact ⟨rfl, b⟩

set_option maxRecDepth 100000 in
set_option maxHeartbeats 2000000 in
theorem laws2b (t0 n0 : Int) (s0 : ByteArray) (t1 n1 : Int) (s1 : ByteArray) (t2 n2 : Int) (s2 : ByteArray) (r0 : (rightE t0 n0 s0 == 0) = true) (g0 : t0 ≤ 1) (r1 : (rightE t1 n1 s1 == 0) = true) (g1 : t1 ≤ 1) (r2 : (rightE t2 n2 s2 == 0) = true) (g2 : 1 < t2) (w : World) :
    Calls Try.prog 4 #[V t0 n0 s0, V t1 n1 s1, V t2 n2 s2] w fun e w' => e = .returned (.bool true) ∧ Below w.heap.size w w' := by
  go_enter Try.func4, Try.ntmps4
  have b : Below w.heap.size w w := Below.refl _ _
  go_wp2_with fail
  refine wp_loop_rounds 4 ?_
  rw [rounds_succ]
  go_wp2_with fail
  replace b : Below w.heap.size w ((((w.alloc (.cells #[.int .i64 t0, .int .i64 n0, .string s0] 23)).alloc (.cells #[.int .i64 t1, .int .i64 n1, .string s1] 23)).alloc (.cells #[.int .i64 t2, .int .i64 n2, .string s2] 23)).alloc (.cells #[.int .i64 t0, .int .i64 n0, .string s0, .int .i64 t1, .int .i64 n1, .string s1, .int .i64 t2, .int .i64 n2, .string s2] 23)) := ((((Below.refl _ _).alloc (Nat.le_refl _) _).alloc (by simp) _).alloc (by simp; omega) _).alloc (by simp; omega) _
  have bb : Below ((((w.alloc (.cells #[.int .i64 t0, .int .i64 n0, .string s0] 23)).alloc (.cells #[.int .i64 t1, .int .i64 n1, .string s1] 23)).alloc (.cells #[.int .i64 t2, .int .i64 n2, .string s2] 23)).alloc (.cells #[.int .i64 t0, .int .i64 n0, .string s0, .int .i64 t1, .int .i64 n1, .string s1, .int .i64 t2, .int .i64 n2, .string s2] 23)).heap.size ((((w.alloc (.cells #[.int .i64 t0, .int .i64 n0, .string s0] 23)).alloc (.cells #[.int .i64 t1, .int .i64 n1, .string s1] 23)).alloc (.cells #[.int .i64 t2, .int .i64 n2, .string s2] 23)).alloc (.cells #[.int .i64 t0, .int .i64 n0, .string s0, .int .i64 t1, .int .i64 n1, .string s1, .int .i64 t2, .int .i64 n2, .string s2] 23)) ((((w.alloc (.cells #[.int .i64 t0, .int .i64 n0, .string s0] 23)).alloc (.cells #[.int .i64 t1, .int .i64 n1, .string s1] 23)).alloc (.cells #[.int .i64 t2, .int .i64 n2, .string s2] 23)).alloc (.cells #[.int .i64 t0, .int .i64 n0, .string s0, .int .i64 t1, .int .i64 n1, .string s1, .int .i64 t2, .int .i64 n2, .string s2] 23)) := Below.refl _ _
  have k : Below ((((w.alloc (.cells #[.int .i64 t0, .int .i64 n0, .string s0] 23)).alloc (.cells #[.int .i64 t1, .int .i64 n1, .string s1] 23)).alloc (.cells #[.int .i64 t2, .int .i64 n2, .string s2] 23)).alloc (.cells #[.int .i64 t0, .int .i64 n0, .string s0, .int .i64 t1, .int .i64 n1, .string s1, .int .i64 t2, .int .i64 n2, .string s2] 23)).heap.size ((((w.alloc (.cells #[.int .i64 t0, .int .i64 n0, .string s0] 23)).alloc (.cells #[.int .i64 t1, .int .i64 n1, .string s1] 23)).alloc (.cells #[.int .i64 t2, .int .i64 n2, .string s2] 23)).alloc (.cells #[.int .i64 t0, .int .i64 n0, .string s0, .int .i64 t1, .int .i64 n1, .string s1, .int .i64 t2, .int .i64 n2, .string s2] 23)) (((((w.alloc (.cells #[.int .i64 t0, .int .i64 n0, .string s0] 23)).alloc (.cells #[.int .i64 t1, .int .i64 n1, .string s1] 23)).alloc (.cells #[.int .i64 t2, .int .i64 n2, .string s2] 23)).alloc (.cells #[.int .i64 t0, .int .i64 n0, .string s0, .int .i64 t1, .int .i64 n1, .string s1, .int .i64 t2, .int .i64 n2, .string s2] 23)).alloc (.cells #[.int .i64 t0, .int .i64 n0, .string s0] 23)) := (Below.refl _ _).alloc (Nat.le_refl _) _
  replace b := btrans b k
  replace bb := btrans bb k
  clear k
  have pv : At (((((w.alloc (.cells #[.int .i64 t0, .int .i64 n0, .string s0] 23)).alloc (.cells #[.int .i64 t1, .int .i64 n1, .string s1] 23)).alloc (.cells #[.int .i64 t2, .int .i64 n2, .string s2] 23)).alloc (.cells #[.int .i64 t0, .int .i64 n0, .string s0, .int .i64 t1, .int .i64 n1, .string s1, .int .i64 t2, .int .i64 n2, .string s2] 23)).alloc (.cells #[.int .i64 t0, .int .i64 n0, .string s0] 23)) (w.heap.size + 1 + 1 + 1 + 1) t0 n0 s0 := by simpa using At.alloc ((((w.alloc (.cells #[.int .i64 t0, .int .i64 n0, .string s0] 23)).alloc (.cells #[.int .i64 t1, .int .i64 n1, .string s1] 23)).alloc (.cells #[.int .i64 t2, .int .i64 n2, .string s2] 23)).alloc (.cells #[.int .i64 t0, .int .i64 n0, .string s0, .int .i64 t1, .int .i64 n1, .string s1, .int .i64 t2, .int .i64 n2, .string s2] 23)) t0 n0 s0
  refine (lawRight_any _ _ _ _).mono ?_
  rintro e w1 ⟨rfl, k⟩
  replace b := btrans b k
  replace bb := btrans bb k
  replace pv := pv.keep k
  clear k
  obtain ⟨hcb, hfb⟩ := bcell bb
  have zb : w.heap.size + 1 + 1 + 1 + 1 ≤ w1.heap.size := by have := bb.size; simp at this; omega
  have zb0 : w.heap.size < w1.heap.size := by omega
  have zb1 : w.heap.size + 1 < w1.heap.size := by omega
  have zb2 : w.heap.size + 1 + 1 < w1.heap.size := by omega
  have zb3 : w.heap.size + 1 + 1 + 1 < w1.heap.size := by omega
  clear zb
  have qpv : _ ∧ _ ∧ _ := pv
  have zpv : w.heap.size + 1 + 1 + 1 + 1 < w1.heap.size := block_lt_of_cell pv.1
  go_wp2_with fail
  rw [rounds_succ]
  go_wp2_with fail
  clear qpv zpv
  clear hcb hfb zb0 zb1 zb2 zb3
  clear pv
  have k : Below w1.heap.size w1 (w1.alloc (.cells #[.int .i64 t1, .int .i64 n1, .string s1] 23)) := (Below.refl _ _).alloc (Nat.le_refl _) _
  replace b := btrans b k
  replace bb := btrans bb k
  clear k
  have pv := At.alloc w1 t1 n1 s1
  refine (lawRight_any _ _ _ _).mono ?_
  rintro e w2 ⟨rfl, k⟩
  replace b := btrans b k
  replace bb := btrans bb k
  replace pv := pv.keep k
  clear k
  obtain ⟨hcb, hfb⟩ := bcell bb
  have zb : w.heap.size + 1 + 1 + 1 + 1 ≤ w2.heap.size := by have := bb.size; simp at this; omega
  have zb0 : w.heap.size < w2.heap.size := by omega
  have zb1 : w.heap.size + 1 < w2.heap.size := by omega
  have zb2 : w.heap.size + 1 + 1 < w2.heap.size := by omega
  have zb3 : w.heap.size + 1 + 1 + 1 < w2.heap.size := by omega
  clear zb
  have qpv : _ ∧ _ ∧ _ := pv
  have zpv : w1.heap.size < w2.heap.size := block_lt_of_cell pv.1
  go_wp2_with fail
  rw [rounds_succ]
  go_wp2_with fail
  clear qpv zpv
  clear hcb hfb zb0 zb1 zb2 zb3
  clear pv
  have k : Below w2.heap.size w2 (w2.alloc (.cells #[.int .i64 t2, .int .i64 n2, .string s2] 23)) := (Below.refl _ _).alloc (Nat.le_refl _) _
  replace b := btrans b k
  replace bb := btrans bb k
  clear k
  have pv := At.alloc w2 t2 n2 s2
  refine (lawRight_any _ _ _ _).mono ?_
  rintro e w3 ⟨rfl, k⟩
  replace b := btrans b k
  replace bb := btrans bb k
  replace pv := pv.keep k
  clear k
  obtain ⟨hcb, hfb⟩ := bcell bb
  have zb : w.heap.size + 1 + 1 + 1 + 1 ≤ w3.heap.size := by have := bb.size; simp at this; omega
  have zb0 : w.heap.size < w3.heap.size := by omega
  have zb1 : w.heap.size + 1 < w3.heap.size := by omega
  have zb2 : w.heap.size + 1 + 1 < w3.heap.size := by omega
  have zb3 : w.heap.size + 1 + 1 + 1 < w3.heap.size := by omega
  clear zb
  have qpv : _ ∧ _ ∧ _ := pv
  have zpv : w2.heap.size < w3.heap.size := block_lt_of_cell pv.1
  go_wp2_with fail
  clear qpv zpv
  clear hcb hfb zb0 zb1 zb2 zb3
  clear pv
  refine (alive_any _).mono ?_
  rintro e w4 ⟨rfl, k⟩
  replace b := btrans b k
  replace bb := btrans bb k
  clear k
  go_wp2_with fail
  go_ret
  exact ⟨rfl, b⟩

end Go.Proofs.Ytpmkmemdammiaaa
