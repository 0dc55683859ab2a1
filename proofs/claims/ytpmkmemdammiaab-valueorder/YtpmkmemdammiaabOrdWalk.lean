/- The law ValueOrder, walked: for any three values it answers true; nothing that was there has turned. -/
import Derived.Test.YtpmkmemdammiaabAlive
import Derived.Test.YtpmkmemdammiaabOrdLess
import Derived.Deep.DeepCutAuto
namespace Go.Proofs.Ytpmkmemdammiaab
open Go.RowKit Go.Sort

/-- What Less hands back. -/
def lessP (t n : Int) (s : ByteArray) (t' n' : Int) (s' : ByteArray) : Parts := if anyN t n s t' n' s' = true then ⟨0, 0, E0⟩ else if (t != t') = true then ⟨0, 0, E0⟩ else ⟨1, oneOf (decide (ordV t n s t' n' s' < 0)), E0⟩
def lessE (t n : Int) (s : ByteArray) (t' n' : Int) (s' : ByteArray) : Int := if anyN t n s t' n' s' = true then 0 else if (t != t') = true then 3 else 0
theorem less_any (t n : Int) (s : ByteArray) (t' n' : Int) (s' : ByteArray) (w : World) :
    Calls Try.prog 5 #[V t n s, V t' n' s'] w fun e w' => e = .returned (.tuple #[V (lessP t n s t' n' s').t (lessP t n s t' n' s').n (lessP t n s t' n' s').s, .int .i64 (lessE t n s t' n' s')]) ∧ Below w.heap.size w w' := by
  unfold lessP lessE
  cases an : anyN t n s t' n' s'
  · cases ht : (t != t')
    · simpa using less_o t n s t' n' s' an ht w
    · simpa using less_t t n s t' n' s' an ht w
  · simpa using less_n t n s t' n' s' an w

set_option maxRecDepth 100000 in
set_option maxHeartbeats 4000000 in
theorem ordA (t0 n0 : Int) (s0 : ByteArray) (t1 n1 : Int) (s1 : ByteArray) (t2 n2 : Int) (s2 : ByteArray) (h0 : (t0 != 0) = false) (w : World) :
    Calls Try.prog 3 #[V t0 n0 s0, V t1 n1 s1, V t2 n2 s2] w fun e w' => e = .returned (.bool true) ∧ Below w.heap.size w w' := by
  have g := good_ordV
  have o1 : ordV t0 n0 s0 t1 n1 s1 = -ordV t1 n1 s1 t0 n0 s0 := g.anti _ _
  have o2 : ordV t0 n0 s0 t0 n0 s0 = 0 := (g.zero _ _).2 rfl
  have o3 : (ordV t0 n0 s0 t1 n1 s1 == 0) = veq t0 n0 s0 t1 n1 s1 := by
    rw [Bool.eq_iff_iff]
    have z := g.zero (t0, n0, s0.toList) (t1, n1, s1.toList)
    simp only [beq_iff_eq, veq, Bool.and_eq_true]
    rw [show ordV t0 n0 s0 t1 n1 s1 = lex ordI (lex ordI ordL) (t0, n0, s0.toList) (t1, n1, s1.toList) from rfl, z]
    simp [and_assoc]
  have o4 := fun h k => g.trans (t0, n0, s0.toList) (t1, n1, s1.toList) (t2, n2, s2.toList) h k
  have o5 := fun h k => g.strict (t0, n0, s0.toList) (t1, n1, s1.toList) (t2, n2, s2.toList) h k
  have l1 := g.lo (t1, n1, s1.toList) (t0, n0, s0.toList)
  have l2 := g.hi (t1, n1, s1.toList) (t0, n0, s0.toList)
  change ordV t0 n0 s0 t1 n1 s1 ≤ 0 → ordV t1 n1 s1 t2 n2 s2 ≤ 0 → ordV t0 n0 s0 t2 n2 s2 ≤ 0 at o4
  change ordV t0 n0 s0 t1 n1 s1 < 0 → ordV t1 n1 s1 t2 n2 s2 ≤ 0 → ordV t0 n0 s0 t2 n2 s2 < 0 at o5
  change -1 ≤ ordV t1 n1 s1 t0 n0 s0 at l1
  change ordV t1 n1 s1 t0 n0 s0 ≤ 1 at l2
  clear g
  have c01 := order_any t0 n0 s0 t1 n1 s1
  have c12 := order_any t1 n1 s1 t2 n2 s2
  have c02 := order_any t0 n0 s0 t2 n2 s2
  have c10 := order_any t1 n1 s1 t0 n0 s0
  have c00 := order_any t0 n0 s0 t0 n0 s0
  rw [o2] at c00
  clear o2
  have ls := less_any t0 n0 s0 t1 n1 s1
  generalize lessP t0 n0 s0 t1 n1 s1 = p at ls
  generalize lessE t0 n0 s0 t1 n1 s1 = er at ls
  have LS : Hid _ := ls
  clear ls
  generalize ordV t0 n0 s0 t1 n1 s1 = oab at *
  generalize ordV t1 n1 s1 t2 n2 s2 = obc at *
  generalize ordV t0 n0 s0 t2 n2 s2 = oac at *
  generalize ordV t1 n1 s1 t0 n0 s0 = oba at *
  have e1 : (oab != -oba) = false := by simp [o1]
  have v := run_veq
  clear o1
  have O01 : Hid _ := c01
  have O12 : Hid _ := c12
  have O02 : Hid _ := c02
  have O10 : Hid _ := c10
  have O00 : Hid _ := c00
  have T4 : Hid _ := o4
  have T5 : Hid _ := o5
  clear c01 c12 c02 c10 c00 o4 o5
  go_enter Try.func3, Try.ntmps3
  have b : Below w.heap.size w w := Below.refl _ _
  go_wp2_with fail
  replace b : Below w.heap.size w (((w.alloc (.cells #[.int .i64 t0, .int .i64 n0, .string s0] 23)).alloc (.cells #[.int .i64 t1, .int .i64 n1, .string s1] 23)).alloc (.cells #[.int .i64 t2, .int .i64 n2, .string s2] 23)) := (((Below.refl _ _).alloc (Nat.le_refl _) _).alloc (by simp) _).alloc (by simp; omega) _
  have bb : Below (((w.alloc (.cells #[.int .i64 t0, .int .i64 n0, .string s0] 23)).alloc (.cells #[.int .i64 t1, .int .i64 n1, .string s1] 23)).alloc (.cells #[.int .i64 t2, .int .i64 n2, .string s2] 23)).heap.size (((w.alloc (.cells #[.int .i64 t0, .int .i64 n0, .string s0] 23)).alloc (.cells #[.int .i64 t1, .int .i64 n1, .string s1] 23)).alloc (.cells #[.int .i64 t2, .int .i64 n2, .string s2] 23)) (((w.alloc (.cells #[.int .i64 t0, .int .i64 n0, .string s0] 23)).alloc (.cells #[.int .i64 t1, .int .i64 n1, .string s1] 23)).alloc (.cells #[.int .i64 t2, .int .i64 n2, .string s2] 23)) := Below.refl _ _
  have ca := (At.keep (w := (((w.alloc (.cells #[.int .i64 t0, .int .i64 n0, .string s0] 23)).alloc (.cells #[.int .i64 t1, .int .i64 n1, .string s1] 23)).alloc (.cells #[.int .i64 t2, .int .i64 n2, .string s2] 23))) (b := w.heap.size) (t := t0) (n := n0) (s := s0) (by simp [At, go_sem]) bb).cells
  have cb := (At.keep (w := (((w.alloc (.cells #[.int .i64 t0, .int .i64 n0, .string s0] 23)).alloc (.cells #[.int .i64 t1, .int .i64 n1, .string s1] 23)).alloc (.cells #[.int .i64 t2, .int .i64 n2, .string s2] 23))) (b := w.heap.size + 1) (t := t1) (n := n1) (s := s1) (by simp [At, go_sem]) bb).cells
  have cc := (At.keep (w := (((w.alloc (.cells #[.int .i64 t0, .int .i64 n0, .string s0] 23)).alloc (.cells #[.int .i64 t1, .int .i64 n1, .string s1] 23)).alloc (.cells #[.int .i64 t2, .int .i64 n2, .string s2] 23))) (b := w.heap.size + 1 + 1) (t := t2) (n := n2) (s := s2) (by simp [At, go_sem]) bb).cells
  refine wp_region_quiet_below (by kernel_rfl) (by kernel_rfl) ?_
  repeat (quiet_step (first | (go_at_call_of 4 t2; go_at_call_of 4 t1; exact Calls.regrown_of (O12.out _)) | (go_at_call_of 4 t2; exact Calls.regrown_of (O02.out _)) | (go_at_call_of 4 t1; exact Calls.regrown_of (O01.out _))))
  refine wpQuiet_nil ?_
  rintro _ ⟨⟨dq, osq⟩, rfl⟩
  have k := below_regrown (((w.alloc (.cells #[.int .i64 t0, .int .i64 n0, .string s0] 23)).alloc (.cells #[.int .i64 t1, .int .i64 n1, .string s1] 23)).alloc (.cells #[.int .i64 t2, .int .i64 n2, .string s2] 23)) dq osq
  clear ca cb cc
  generalize grow (redrawn (((w.alloc (.cells #[.int .i64 t0, .int .i64 n0, .string s0] 23)).alloc (.cells #[.int .i64 t1, .int .i64 n1, .string s1] 23)).alloc (.cells #[.int .i64 t2, .int .i64 n2, .string s2] 23)) dq) osq = w1 at k ⊢
  replace b := btrans b k
  replace bb := btrans bb k
  clear k
  obtain ⟨hcb, hfb⟩ := bcell bb
  have zb : w.heap.size + 1 + 1 + 1 ≤ w1.heap.size := by have := bb.size; simp at this; omega
  have zb0 : w.heap.size < w1.heap.size := by omega
  have zb1 : w.heap.size + 1 < w1.heap.size := by omega
  have zb2 : w.heap.size + 1 + 1 < w1.heap.size := by omega
  clear zb
  go_wp2_with fail
  clear hcb hfb zb0 zb1 zb2
  refine (O10.out _).mono ?_
  rintro e w2 ⟨rfl, k⟩
  replace b := btrans b k
  replace bb := btrans bb k
  clear k
  obtain ⟨hcb, hfb⟩ := bcell bb
  have zb : w.heap.size + 1 + 1 + 1 ≤ w2.heap.size := by have := bb.size; simp at this; omega
  have zb0 : w.heap.size < w2.heap.size := by omega
  have zb1 : w.heap.size + 1 < w2.heap.size := by omega
  have zb2 : w.heap.size + 1 + 1 < w2.heap.size := by omega
  clear zb
  go_wp2_with fail
  clear hcb hfb zb0 zb1 zb2
  refine (O00.out _).mono ?_
  rintro e w3 ⟨rfl, k⟩
  replace b := btrans b k
  replace bb := btrans bb k
  clear k
  obtain ⟨hcb, hfb⟩ := bcell bb
  have zb : w.heap.size + 1 + 1 + 1 ≤ w3.heap.size := by have := bb.size; simp at this; omega
  have zb0 : w.heap.size < w3.heap.size := by omega
  have zb1 : w.heap.size + 1 < w3.heap.size := by omega
  have zb2 : w.heap.size + 1 + 1 < w3.heap.size := by omega
  clear zb
  clear O01 O12 O02 O10 O00 l1 l2 e1 o3
  go_upto_region 4 with fail
  clear hcb hfb zb0 zb1 zb2
  go_cut [62] (fun s62 W => s62 = .bool false ∧ w3 = W)
  case first =>
    clear b bb LS
    by_cases c1 : oab ≤ 0
    · by_cases c2 : obc ≤ 0
      · have c3 := T4.out c1 c2
        by_cases c4 : oab < 0
        · have c5 := T5.out c4 c2
          go_wp2
          all_goals
            go_meet
            case rel => exact ⟨by simp; try omega, rfl⟩
        · skip
          go_wp2
          all_goals
            go_meet
            case rel => exact ⟨by simp; try omega, rfl⟩
      · skip
        go_wp2
        all_goals
          go_meet
          case rel => exact ⟨by simp; try omega, rfl⟩
    · skip
      go_wp2
      all_goals
        go_meet
        case rel => exact ⟨by simp; try omega, rfl⟩
  case rest =>
    obtain ⟨rfl, rfl⟩ := hcut
    clear T4 T5
    obtain ⟨hcb, hfb⟩ := bcell bb
    have zb : w.heap.size + 1 + 1 + 1 ≤ w3.heap.size := by have := bb.size; simp at this; omega
    have zb0 : w.heap.size < w3.heap.size := by omega
    have zb1 : w.heap.size + 1 < w3.heap.size := by omega
    have zb2 : w.heap.size + 1 + 1 < w3.heap.size := by omega
    clear zb
    go_wp2_with fail
    clear hcb hfb zb0 zb1 zb2
    refine (LS.out _).mono ?_
    rintro e w4 ⟨rfl, k⟩
    replace b := btrans b k
    replace bb := btrans bb k
    clear k
    obtain ⟨hcb, hfb⟩ := bcell bb
    have zb : w.heap.size + 1 + 1 + 1 ≤ w4.heap.size := by have := bb.size; simp at this; omega
    have zb0 : w.heap.size < w4.heap.size := by omega
    have zb1 : w.heap.size + 1 < w4.heap.size := by omega
    have zb2 : w.heap.size + 1 + 1 < w4.heap.size := by omega
    clear zb
    go_wp2_with fail
    clear hcb hfb zb0 zb1 zb2
    have k : Below w4.heap.size w4 (w4.alloc (.cells #[.int .i64 p.t, .int .i64 p.n, .string p.s] 23)) := (Below.refl _ _).alloc (Nat.le_refl _) _
    replace b := btrans b k
    replace bb := btrans bb k
    clear k
    have pl := At.alloc w4 p.t p.n p.s
    have ca := (At.keep (w := (((w.alloc (.cells #[.int .i64 t0, .int .i64 n0, .string s0] 23)).alloc (.cells #[.int .i64 t1, .int .i64 n1, .string s1] 23)).alloc (.cells #[.int .i64 t2, .int .i64 n2, .string s2] 23))) (b := w.heap.size) (t := t0) (n := n0) (s := s0) (by simp [At, go_sem]) bb).cells
    have cb := (At.keep (w := (((w.alloc (.cells #[.int .i64 t0, .int .i64 n0, .string s0] 23)).alloc (.cells #[.int .i64 t1, .int .i64 n1, .string s1] 23)).alloc (.cells #[.int .i64 t2, .int .i64 n2, .string s2] 23))) (b := w.heap.size + 1) (t := t1) (n := n1) (s := s1) (by simp [At, go_sem]) bb).cells
    have cc := (At.keep (w := (((w.alloc (.cells #[.int .i64 t0, .int .i64 n0, .string s0] 23)).alloc (.cells #[.int .i64 t1, .int .i64 n1, .string s1] 23)).alloc (.cells #[.int .i64 t2, .int .i64 n2, .string s2] 23))) (b := w.heap.size + 1 + 1) (t := t2) (n := n2) (s := s2) (by simp [At, go_sem]) bb).cells
    have cl := pl.cells
    have hvn := run_vne
    have vself : ∀ t n s, veq t n s t n s = true := fun t n s => by simp [veq]
    refine wp_region_quiet_below (by kernel_rfl) (by kernel_rfl) ?_
    repeat (first | go_big_quiet_step (exact Calls.regrown_of (refBool_any _ _)) | quiet_step (exact Calls.regrown_of (refBool_any _ _)))
    refine wpQuiet_nil ?_
    rintro _ ⟨⟨dq, osq⟩, rfl⟩
    have k := below_regrown (w4.alloc (.cells #[.int .i64 p.t, .int .i64 p.n, .string p.s] 23)) dq osq
    clear ca cb cc cl hvn vself
    generalize grow (redrawn (w4.alloc (.cells #[.int .i64 p.t, .int .i64 p.n, .string p.s] 23)) dq) osq = w9 at k ⊢
    replace b := btrans b k
    replace bb := btrans bb k
    replace pl := pl.keep k
    clear k
    go_wp2_with fail
    refine (alive_any _).mono ?_
    rintro e w10 ⟨rfl, k⟩
    replace b := btrans b k
    replace bb := btrans bb k
    replace pl := pl.keep k
    clear k
    go_wp2_with fail
    go_ret
    exact ⟨rfl, b⟩

set_option maxRecDepth 100000 in
set_option maxHeartbeats 4000000 in
theorem ordB (t0 n0 : Int) (s0 : ByteArray) (t1 n1 : Int) (s1 : ByteArray) (t2 n2 : Int) (s2 : ByteArray) (h0 : (t0 != 0) = true) (h1 : (t0 == t1) = false) (w : World) :
    Calls Try.prog 3 #[V t0 n0 s0, V t1 n1 s1, V t2 n2 s2] w fun e w' => e = .returned (.bool true) ∧ Below w.heap.size w w' := by
  have g := good_ordV
  have o1 : ordV t0 n0 s0 t1 n1 s1 = -ordV t1 n1 s1 t0 n0 s0 := g.anti _ _
  have o2 : ordV t0 n0 s0 t0 n0 s0 = 0 := (g.zero _ _).2 rfl
  have o3 : (ordV t0 n0 s0 t1 n1 s1 == 0) = veq t0 n0 s0 t1 n1 s1 := by
    rw [Bool.eq_iff_iff]
    have z := g.zero (t0, n0, s0.toList) (t1, n1, s1.toList)
    simp only [beq_iff_eq, veq, Bool.and_eq_true]
    rw [show ordV t0 n0 s0 t1 n1 s1 = lex ordI (lex ordI ordL) (t0, n0, s0.toList) (t1, n1, s1.toList) from rfl, z]
    simp [and_assoc]
  have o4 := fun h k => g.trans (t0, n0, s0.toList) (t1, n1, s1.toList) (t2, n2, s2.toList) h k
  have o5 := fun h k => g.strict (t0, n0, s0.toList) (t1, n1, s1.toList) (t2, n2, s2.toList) h k
  have l1 := g.lo (t1, n1, s1.toList) (t0, n0, s0.toList)
  have l2 := g.hi (t1, n1, s1.toList) (t0, n0, s0.toList)
  change ordV t0 n0 s0 t1 n1 s1 ≤ 0 → ordV t1 n1 s1 t2 n2 s2 ≤ 0 → ordV t0 n0 s0 t2 n2 s2 ≤ 0 at o4
  change ordV t0 n0 s0 t1 n1 s1 < 0 → ordV t1 n1 s1 t2 n2 s2 ≤ 0 → ordV t0 n0 s0 t2 n2 s2 < 0 at o5
  change -1 ≤ ordV t1 n1 s1 t0 n0 s0 at l1
  change ordV t1 n1 s1 t0 n0 s0 ≤ 1 at l2
  clear g
  have c01 := order_any t0 n0 s0 t1 n1 s1
  have c12 := order_any t1 n1 s1 t2 n2 s2
  have c02 := order_any t0 n0 s0 t2 n2 s2
  have c10 := order_any t1 n1 s1 t0 n0 s0
  have c00 := order_any t0 n0 s0 t0 n0 s0
  rw [o2] at c00
  clear o2
  have ls := less_any t0 n0 s0 t1 n1 s1
  generalize lessP t0 n0 s0 t1 n1 s1 = p at ls
  generalize lessE t0 n0 s0 t1 n1 s1 = er at ls
  have LS : Hid _ := ls
  clear ls
  generalize ordV t0 n0 s0 t1 n1 s1 = oab at *
  generalize ordV t1 n1 s1 t2 n2 s2 = obc at *
  generalize ordV t0 n0 s0 t2 n2 s2 = oac at *
  generalize ordV t1 n1 s1 t0 n0 s0 = oba at *
  have e1 : (oab != -oba) = false := by simp [o1]
  have v := run_veq
  clear o1
  have O01 : Hid _ := c01
  have O12 : Hid _ := c12
  have O02 : Hid _ := c02
  have O10 : Hid _ := c10
  have O00 : Hid _ := c00
  have T4 : Hid _ := o4
  have T5 : Hid _ := o5
  clear c01 c12 c02 c10 c00 o4 o5
  go_enter Try.func3, Try.ntmps3
  have b : Below w.heap.size w w := Below.refl _ _
  go_wp2_with fail
  replace b : Below w.heap.size w (((w.alloc (.cells #[.int .i64 t0, .int .i64 n0, .string s0] 23)).alloc (.cells #[.int .i64 t1, .int .i64 n1, .string s1] 23)).alloc (.cells #[.int .i64 t2, .int .i64 n2, .string s2] 23)) := (((Below.refl _ _).alloc (Nat.le_refl _) _).alloc (by simp) _).alloc (by simp; omega) _
  have bb : Below (((w.alloc (.cells #[.int .i64 t0, .int .i64 n0, .string s0] 23)).alloc (.cells #[.int .i64 t1, .int .i64 n1, .string s1] 23)).alloc (.cells #[.int .i64 t2, .int .i64 n2, .string s2] 23)).heap.size (((w.alloc (.cells #[.int .i64 t0, .int .i64 n0, .string s0] 23)).alloc (.cells #[.int .i64 t1, .int .i64 n1, .string s1] 23)).alloc (.cells #[.int .i64 t2, .int .i64 n2, .string s2] 23)) (((w.alloc (.cells #[.int .i64 t0, .int .i64 n0, .string s0] 23)).alloc (.cells #[.int .i64 t1, .int .i64 n1, .string s1] 23)).alloc (.cells #[.int .i64 t2, .int .i64 n2, .string s2] 23)) := Below.refl _ _
  have ca := (At.keep (w := (((w.alloc (.cells #[.int .i64 t0, .int .i64 n0, .string s0] 23)).alloc (.cells #[.int .i64 t1, .int .i64 n1, .string s1] 23)).alloc (.cells #[.int .i64 t2, .int .i64 n2, .string s2] 23))) (b := w.heap.size) (t := t0) (n := n0) (s := s0) (by simp [At, go_sem]) bb).cells
  have cb := (At.keep (w := (((w.alloc (.cells #[.int .i64 t0, .int .i64 n0, .string s0] 23)).alloc (.cells #[.int .i64 t1, .int .i64 n1, .string s1] 23)).alloc (.cells #[.int .i64 t2, .int .i64 n2, .string s2] 23))) (b := w.heap.size + 1) (t := t1) (n := n1) (s := s1) (by simp [At, go_sem]) bb).cells
  have cc := (At.keep (w := (((w.alloc (.cells #[.int .i64 t0, .int .i64 n0, .string s0] 23)).alloc (.cells #[.int .i64 t1, .int .i64 n1, .string s1] 23)).alloc (.cells #[.int .i64 t2, .int .i64 n2, .string s2] 23))) (b := w.heap.size + 1 + 1) (t := t2) (n := n2) (s := s2) (by simp [At, go_sem]) bb).cells
  refine wp_region_quiet_below (by kernel_rfl) (by kernel_rfl) ?_
  repeat (quiet_step (first | (go_at_call_of 4 t2; go_at_call_of 4 t1; exact Calls.regrown_of (O12.out _)) | (go_at_call_of 4 t2; exact Calls.regrown_of (O02.out _)) | (go_at_call_of 4 t1; exact Calls.regrown_of (O01.out _))))
  refine wpQuiet_nil ?_
  rintro _ ⟨⟨dq, osq⟩, rfl⟩
  have k := below_regrown (((w.alloc (.cells #[.int .i64 t0, .int .i64 n0, .string s0] 23)).alloc (.cells #[.int .i64 t1, .int .i64 n1, .string s1] 23)).alloc (.cells #[.int .i64 t2, .int .i64 n2, .string s2] 23)) dq osq
  clear ca cb cc
  generalize grow (redrawn (((w.alloc (.cells #[.int .i64 t0, .int .i64 n0, .string s0] 23)).alloc (.cells #[.int .i64 t1, .int .i64 n1, .string s1] 23)).alloc (.cells #[.int .i64 t2, .int .i64 n2, .string s2] 23)) dq) osq = w1 at k ⊢
  replace b := btrans b k
  replace bb := btrans bb k
  clear k
  obtain ⟨hcb, hfb⟩ := bcell bb
  have zb : w.heap.size + 1 + 1 + 1 ≤ w1.heap.size := by have := bb.size; simp at this; omega
  have zb0 : w.heap.size < w1.heap.size := by omega
  have zb1 : w.heap.size + 1 < w1.heap.size := by omega
  have zb2 : w.heap.size + 1 + 1 < w1.heap.size := by omega
  clear zb
  go_wp2_with fail
  clear hcb hfb zb0 zb1 zb2
  refine (O10.out _).mono ?_
  rintro e w2 ⟨rfl, k⟩
  replace b := btrans b k
  replace bb := btrans bb k
  clear k
  obtain ⟨hcb, hfb⟩ := bcell bb
  have zb : w.heap.size + 1 + 1 + 1 ≤ w2.heap.size := by have := bb.size; simp at this; omega
  have zb0 : w.heap.size < w2.heap.size := by omega
  have zb1 : w.heap.size + 1 < w2.heap.size := by omega
  have zb2 : w.heap.size + 1 + 1 < w2.heap.size := by omega
  clear zb
  go_wp2_with fail
  clear hcb hfb zb0 zb1 zb2
  refine (O00.out _).mono ?_
  rintro e w3 ⟨rfl, k⟩
  replace b := btrans b k
  replace bb := btrans bb k
  clear k
  obtain ⟨hcb, hfb⟩ := bcell bb
  have zb : w.heap.size + 1 + 1 + 1 ≤ w3.heap.size := by have := bb.size; simp at this; omega
  have zb0 : w.heap.size < w3.heap.size := by omega
  have zb1 : w.heap.size + 1 < w3.heap.size := by omega
  have zb2 : w.heap.size + 1 + 1 < w3.heap.size := by omega
  clear zb
  clear O01 O12 O02 O10 O00 l1 l2 e1 o3
  go_upto_region 4 with fail
  clear hcb hfb zb0 zb1 zb2
  go_cut [62] (fun s62 W => s62 = .bool false ∧ w3 = W)
  case first =>
    clear b bb LS
    by_cases c1 : oab ≤ 0
    · by_cases c2 : obc ≤ 0
      · have c3 := T4.out c1 c2
        by_cases c4 : oab < 0
        · have c5 := T5.out c4 c2
          go_wp2
          all_goals
            go_meet
            case rel => exact ⟨by simp; try omega, rfl⟩
        · skip
          go_wp2
          all_goals
            go_meet
            case rel => exact ⟨by simp; try omega, rfl⟩
      · skip
        go_wp2
        all_goals
          go_meet
          case rel => exact ⟨by simp; try omega, rfl⟩
    · skip
      go_wp2
      all_goals
        go_meet
        case rel => exact ⟨by simp; try omega, rfl⟩
  case rest =>
    obtain ⟨rfl, rfl⟩ := hcut
    clear T4 T5
    obtain ⟨hcb, hfb⟩ := bcell bb
    have zb : w.heap.size + 1 + 1 + 1 ≤ w3.heap.size := by have := bb.size; simp at this; omega
    have zb0 : w.heap.size < w3.heap.size := by omega
    have zb1 : w.heap.size + 1 < w3.heap.size := by omega
    have zb2 : w.heap.size + 1 + 1 < w3.heap.size := by omega
    clear zb
    go_wp2_with fail
    clear hcb hfb zb0 zb1 zb2
    refine (LS.out _).mono ?_
    rintro e w4 ⟨rfl, k⟩
    replace b := btrans b k
    replace bb := btrans bb k
    clear k
    obtain ⟨hcb, hfb⟩ := bcell bb
    have zb : w.heap.size + 1 + 1 + 1 ≤ w4.heap.size := by have := bb.size; simp at this; omega
    have zb0 : w.heap.size < w4.heap.size := by omega
    have zb1 : w.heap.size + 1 < w4.heap.size := by omega
    have zb2 : w.heap.size + 1 + 1 < w4.heap.size := by omega
    clear zb
    go_wp2_with fail
    clear hcb hfb zb0 zb1 zb2
    have k : Below w4.heap.size w4 (w4.alloc (.cells #[.int .i64 p.t, .int .i64 p.n, .string p.s] 23)) := (Below.refl _ _).alloc (Nat.le_refl _) _
    replace b := btrans b k
    replace bb := btrans bb k
    clear k
    have pl := At.alloc w4 p.t p.n p.s
    have ca := (At.keep (w := (((w.alloc (.cells #[.int .i64 t0, .int .i64 n0, .string s0] 23)).alloc (.cells #[.int .i64 t1, .int .i64 n1, .string s1] 23)).alloc (.cells #[.int .i64 t2, .int .i64 n2, .string s2] 23))) (b := w.heap.size) (t := t0) (n := n0) (s := s0) (by simp [At, go_sem]) bb).cells
    have cb := (At.keep (w := (((w.alloc (.cells #[.int .i64 t0, .int .i64 n0, .string s0] 23)).alloc (.cells #[.int .i64 t1, .int .i64 n1, .string s1] 23)).alloc (.cells #[.int .i64 t2, .int .i64 n2, .string s2] 23))) (b := w.heap.size + 1) (t := t1) (n := n1) (s := s1) (by simp [At, go_sem]) bb).cells
    have cc := (At.keep (w := (((w.alloc (.cells #[.int .i64 t0, .int .i64 n0, .string s0] 23)).alloc (.cells #[.int .i64 t1, .int .i64 n1, .string s1] 23)).alloc (.cells #[.int .i64 t2, .int .i64 n2, .string s2] 23))) (b := w.heap.size + 1 + 1) (t := t2) (n := n2) (s := s2) (by simp [At, go_sem]) bb).cells
    have cl := pl.cells
    have hvn := run_vne
    have vself : ∀ t n s, veq t n s t n s = true := fun t n s => by simp [veq]
    refine wp_region_quiet_below (by kernel_rfl) (by kernel_rfl) ?_
    repeat (first | go_big_quiet_step (exact Calls.regrown_of (refBool_any _ _)) | quiet_step (exact Calls.regrown_of (refBool_any _ _)))
    refine wpQuiet_nil ?_
    rintro _ ⟨⟨dq, osq⟩, rfl⟩
    have k := below_regrown (w4.alloc (.cells #[.int .i64 p.t, .int .i64 p.n, .string p.s] 23)) dq osq
    clear ca cb cc cl hvn vself
    generalize grow (redrawn (w4.alloc (.cells #[.int .i64 p.t, .int .i64 p.n, .string p.s] 23)) dq) osq = w9 at k ⊢
    replace b := btrans b k
    replace bb := btrans bb k
    replace pl := pl.keep k
    clear k
    go_wp2_with fail
    refine (alive_any _).mono ?_
    rintro e w10 ⟨rfl, k⟩
    replace b := btrans b k
    replace bb := btrans bb k
    replace pl := pl.keep k
    clear k
    go_wp2_with fail
    go_ret
    exact ⟨rfl, b⟩

set_option maxRecDepth 100000 in
set_option maxHeartbeats 4000000 in
theorem ordC (t0 n0 : Int) (s0 : ByteArray) (t1 n1 : Int) (s1 : ByteArray) (t2 n2 : Int) (s2 : ByteArray) (h0 : (t0 != 0) = true) (h1 : (t0 == t1) = true) (w : World) :
    Calls Try.prog 3 #[V t0 n0 s0, V t1 n1 s1, V t2 n2 s2] w fun e w' => e = .returned (.bool true) ∧ Below w.heap.size w w' := by
  have g := good_ordV
  have o1 : ordV t0 n0 s0 t1 n1 s1 = -ordV t1 n1 s1 t0 n0 s0 := g.anti _ _
  have o2 : ordV t0 n0 s0 t0 n0 s0 = 0 := (g.zero _ _).2 rfl
  have o3 : (ordV t0 n0 s0 t1 n1 s1 == 0) = veq t0 n0 s0 t1 n1 s1 := by
    rw [Bool.eq_iff_iff]
    have z := g.zero (t0, n0, s0.toList) (t1, n1, s1.toList)
    simp only [beq_iff_eq, veq, Bool.and_eq_true]
    rw [show ordV t0 n0 s0 t1 n1 s1 = lex ordI (lex ordI ordL) (t0, n0, s0.toList) (t1, n1, s1.toList) from rfl, z]
    simp [and_assoc]
  have o4 := fun h k => g.trans (t0, n0, s0.toList) (t1, n1, s1.toList) (t2, n2, s2.toList) h k
  have o5 := fun h k => g.strict (t0, n0, s0.toList) (t1, n1, s1.toList) (t2, n2, s2.toList) h k
  have l1 := g.lo (t1, n1, s1.toList) (t0, n0, s0.toList)
  have l2 := g.hi (t1, n1, s1.toList) (t0, n0, s0.toList)
  change ordV t0 n0 s0 t1 n1 s1 ≤ 0 → ordV t1 n1 s1 t2 n2 s2 ≤ 0 → ordV t0 n0 s0 t2 n2 s2 ≤ 0 at o4
  change ordV t0 n0 s0 t1 n1 s1 < 0 → ordV t1 n1 s1 t2 n2 s2 ≤ 0 → ordV t0 n0 s0 t2 n2 s2 < 0 at o5
  change -1 ≤ ordV t1 n1 s1 t0 n0 s0 at l1
  change ordV t1 n1 s1 t0 n0 s0 ≤ 1 at l2
  clear g
  have c01 := order_any t0 n0 s0 t1 n1 s1
  have c12 := order_any t1 n1 s1 t2 n2 s2
  have c02 := order_any t0 n0 s0 t2 n2 s2
  have c10 := order_any t1 n1 s1 t0 n0 s0
  have c00 := order_any t0 n0 s0 t0 n0 s0
  rw [o2] at c00
  clear o2
  have an : anyN t0 n0 s0 t1 n1 s1 = false := by simp at h0 h1; subst h1; simp [anyN, isNull, veq, h0]
  have ls := less_o t0 n0 s0 t1 n1 s1 an (by simpa using h1)
  clear an
  generalize ordV t0 n0 s0 t1 n1 s1 = oab at *
  generalize ordV t1 n1 s1 t2 n2 s2 = obc at *
  generalize ordV t0 n0 s0 t2 n2 s2 = oac at *
  generalize ordV t1 n1 s1 t0 n0 s0 = oba at *
  have e1 : (oab != -oba) = false := by simp [o1]
  have v := run_veq
  clear o1
  have O01 : Hid _ := c01
  have O12 : Hid _ := c12
  have O02 : Hid _ := c02
  have O10 : Hid _ := c10
  have O00 : Hid _ := c00
  have T4 : Hid _ := o4
  have T5 : Hid _ := o5
  clear c01 c12 c02 c10 c00 o4 o5
  have LS : Hid _ := ls
  clear ls
  go_enter Try.func3, Try.ntmps3
  have b : Below w.heap.size w w := Below.refl _ _
  go_wp2_with fail
  replace b : Below w.heap.size w (((w.alloc (.cells #[.int .i64 t0, .int .i64 n0, .string s0] 23)).alloc (.cells #[.int .i64 t1, .int .i64 n1, .string s1] 23)).alloc (.cells #[.int .i64 t2, .int .i64 n2, .string s2] 23)) := (((Below.refl _ _).alloc (Nat.le_refl _) _).alloc (by simp) _).alloc (by simp; omega) _
  have bb : Below (((w.alloc (.cells #[.int .i64 t0, .int .i64 n0, .string s0] 23)).alloc (.cells #[.int .i64 t1, .int .i64 n1, .string s1] 23)).alloc (.cells #[.int .i64 t2, .int .i64 n2, .string s2] 23)).heap.size (((w.alloc (.cells #[.int .i64 t0, .int .i64 n0, .string s0] 23)).alloc (.cells #[.int .i64 t1, .int .i64 n1, .string s1] 23)).alloc (.cells #[.int .i64 t2, .int .i64 n2, .string s2] 23)) (((w.alloc (.cells #[.int .i64 t0, .int .i64 n0, .string s0] 23)).alloc (.cells #[.int .i64 t1, .int .i64 n1, .string s1] 23)).alloc (.cells #[.int .i64 t2, .int .i64 n2, .string s2] 23)) := Below.refl _ _
  have ca := (At.keep (w := (((w.alloc (.cells #[.int .i64 t0, .int .i64 n0, .string s0] 23)).alloc (.cells #[.int .i64 t1, .int .i64 n1, .string s1] 23)).alloc (.cells #[.int .i64 t2, .int .i64 n2, .string s2] 23))) (b := w.heap.size) (t := t0) (n := n0) (s := s0) (by simp [At, go_sem]) bb).cells
  have cb := (At.keep (w := (((w.alloc (.cells #[.int .i64 t0, .int .i64 n0, .string s0] 23)).alloc (.cells #[.int .i64 t1, .int .i64 n1, .string s1] 23)).alloc (.cells #[.int .i64 t2, .int .i64 n2, .string s2] 23))) (b := w.heap.size + 1) (t := t1) (n := n1) (s := s1) (by simp [At, go_sem]) bb).cells
  have cc := (At.keep (w := (((w.alloc (.cells #[.int .i64 t0, .int .i64 n0, .string s0] 23)).alloc (.cells #[.int .i64 t1, .int .i64 n1, .string s1] 23)).alloc (.cells #[.int .i64 t2, .int .i64 n2, .string s2] 23))) (b := w.heap.size + 1 + 1) (t := t2) (n := n2) (s := s2) (by simp [At, go_sem]) bb).cells
  refine wp_region_quiet_below (by kernel_rfl) (by kernel_rfl) ?_
  repeat (quiet_step (first | (go_at_call_of 4 t2; go_at_call_of 4 t1; exact Calls.regrown_of (O12.out _)) | (go_at_call_of 4 t2; exact Calls.regrown_of (O02.out _)) | (go_at_call_of 4 t1; exact Calls.regrown_of (O01.out _))))
  refine wpQuiet_nil ?_
  rintro _ ⟨⟨dq, osq⟩, rfl⟩
  have k := below_regrown (((w.alloc (.cells #[.int .i64 t0, .int .i64 n0, .string s0] 23)).alloc (.cells #[.int .i64 t1, .int .i64 n1, .string s1] 23)).alloc (.cells #[.int .i64 t2, .int .i64 n2, .string s2] 23)) dq osq
  clear ca cb cc
  generalize grow (redrawn (((w.alloc (.cells #[.int .i64 t0, .int .i64 n0, .string s0] 23)).alloc (.cells #[.int .i64 t1, .int .i64 n1, .string s1] 23)).alloc (.cells #[.int .i64 t2, .int .i64 n2, .string s2] 23)) dq) osq = w1 at k ⊢
  replace b := btrans b k
  replace bb := btrans bb k
  clear k
  obtain ⟨hcb, hfb⟩ := bcell bb
  have zb : w.heap.size + 1 + 1 + 1 ≤ w1.heap.size := by have := bb.size; simp at this; omega
  have zb0 : w.heap.size < w1.heap.size := by omega
  have zb1 : w.heap.size + 1 < w1.heap.size := by omega
  have zb2 : w.heap.size + 1 + 1 < w1.heap.size := by omega
  clear zb
  go_wp2_with fail
  clear hcb hfb zb0 zb1 zb2
  refine (O10.out _).mono ?_
  rintro e w2 ⟨rfl, k⟩
  replace b := btrans b k
  replace bb := btrans bb k
  clear k
  obtain ⟨hcb, hfb⟩ := bcell bb
  have zb : w.heap.size + 1 + 1 + 1 ≤ w2.heap.size := by have := bb.size; simp at this; omega
  have zb0 : w.heap.size < w2.heap.size := by omega
  have zb1 : w.heap.size + 1 < w2.heap.size := by omega
  have zb2 : w.heap.size + 1 + 1 < w2.heap.size := by omega
  clear zb
  go_wp2_with fail
  clear hcb hfb zb0 zb1 zb2
  refine (O00.out _).mono ?_
  rintro e w3 ⟨rfl, k⟩
  replace b := btrans b k
  replace bb := btrans bb k
  clear k
  obtain ⟨hcb, hfb⟩ := bcell bb
  have zb : w.heap.size + 1 + 1 + 1 ≤ w3.heap.size := by have := bb.size; simp at this; omega
  have zb0 : w.heap.size < w3.heap.size := by omega
  have zb1 : w.heap.size + 1 < w3.heap.size := by omega
  have zb2 : w.heap.size + 1 + 1 < w3.heap.size := by omega
  clear zb
  clear O01 O12 O02 O10 O00 l1 l2 e1 o3
  go_upto_region 4 with fail
  clear hcb hfb zb0 zb1 zb2
  go_cut [62] (fun s62 W => s62 = .bool false ∧ w3 = W)
  case first =>
    clear b bb LS
    by_cases c1 : oab ≤ 0
    · by_cases c2 : obc ≤ 0
      · have c3 := T4.out c1 c2
        by_cases c4 : oab < 0
        · have c5 := T5.out c4 c2
          go_wp2
          all_goals
            go_meet
            case rel => exact ⟨by simp; try omega, rfl⟩
        · skip
          go_wp2
          all_goals
            go_meet
            case rel => exact ⟨by simp; try omega, rfl⟩
      · skip
        go_wp2
        all_goals
          go_meet
          case rel => exact ⟨by simp; try omega, rfl⟩
    · skip
      go_wp2
      all_goals
        go_meet
        case rel => exact ⟨by simp; try omega, rfl⟩
  case rest =>
    obtain ⟨rfl, rfl⟩ := hcut
    clear T4 T5
    obtain ⟨hcb, hfb⟩ := bcell bb
    have zb : w.heap.size + 1 + 1 + 1 ≤ w3.heap.size := by have := bb.size; simp at this; omega
    have zb0 : w.heap.size < w3.heap.size := by omega
    have zb1 : w.heap.size + 1 < w3.heap.size := by omega
    have zb2 : w.heap.size + 1 + 1 < w3.heap.size := by omega
    clear zb
    go_wp2_with fail
    clear hcb hfb zb0 zb1 zb2
    refine (LS.out _).mono ?_
    rintro e w4 ⟨rfl, k⟩
    replace b := btrans b k
    replace bb := btrans bb k
    clear k
    obtain ⟨hcb, hfb⟩ := bcell bb
    have zb : w.heap.size + 1 + 1 + 1 ≤ w4.heap.size := by have := bb.size; simp at this; omega
    have zb0 : w.heap.size < w4.heap.size := by omega
    have zb1 : w.heap.size + 1 < w4.heap.size := by omega
    have zb2 : w.heap.size + 1 + 1 < w4.heap.size := by omega
    clear zb
    go_wp2_with fail
    clear hcb hfb zb0 zb1 zb2
    have k : Below w4.heap.size w4 (w4.alloc (.cells #[.int .i64 1, .int .i64 (oneOf (decide (oab < 0))), .string E0] 23)) := (Below.refl _ _).alloc (Nat.le_refl _) _
    replace b := btrans b k
    replace bb := btrans bb k
    clear k
    have pl := At.alloc w4 1 (oneOf (decide (oab < 0))) E0
    have ca := (At.keep (w := (((w.alloc (.cells #[.int .i64 t0, .int .i64 n0, .string s0] 23)).alloc (.cells #[.int .i64 t1, .int .i64 n1, .string s1] 23)).alloc (.cells #[.int .i64 t2, .int .i64 n2, .string s2] 23))) (b := w.heap.size) (t := t0) (n := n0) (s := s0) (by simp [At, go_sem]) bb).cells
    have cb := (At.keep (w := (((w.alloc (.cells #[.int .i64 t0, .int .i64 n0, .string s0] 23)).alloc (.cells #[.int .i64 t1, .int .i64 n1, .string s1] 23)).alloc (.cells #[.int .i64 t2, .int .i64 n2, .string s2] 23))) (b := w.heap.size + 1) (t := t1) (n := n1) (s := s1) (by simp [At, go_sem]) bb).cells
    have cc := (At.keep (w := (((w.alloc (.cells #[.int .i64 t0, .int .i64 n0, .string s0] 23)).alloc (.cells #[.int .i64 t1, .int .i64 n1, .string s1] 23)).alloc (.cells #[.int .i64 t2, .int .i64 n2, .string s2] 23))) (b := w.heap.size + 1 + 1) (t := t2) (n := n2) (s := s2) (by simp [At, go_sem]) bb).cells
    have cl := pl.cells
    have hvn := run_vne
    have vself : ∀ t n s, veq t n s t n s = true := fun t n s => by simp [veq]
    refine wp_region_quiet_below (by kernel_rfl) (by kernel_rfl) ?_
    repeat (first | go_big_quiet_step (exact Calls.regrown_of (refBool_any _ _)) | quiet_step (exact Calls.regrown_of (refBool_any _ _)))
    refine wpQuiet_nil ?_
    rintro _ ⟨⟨dq, osq⟩, rfl⟩
    have k := below_regrown (w4.alloc (.cells #[.int .i64 1, .int .i64 (oneOf (decide (oab < 0))), .string E0] 23)) dq osq
    clear ca cb cc cl hvn vself
    generalize grow (redrawn (w4.alloc (.cells #[.int .i64 1, .int .i64 (oneOf (decide (oab < 0))), .string E0] 23)) dq) osq = w9 at k ⊢
    replace b := btrans b k
    replace bb := btrans bb k
    replace pl := pl.keep k
    clear k
    go_wp2_with fail
    refine (alive_any _).mono ?_
    rintro e w10 ⟨rfl, k⟩
    replace b := btrans b k
    replace bb := btrans bb k
    replace pl := pl.keep k
    clear k
    go_wp2_with fail
    go_ret
    exact ⟨rfl, b⟩

theorem order_law (t0 n0 : Int) (s0 : ByteArray) (t1 n1 : Int) (s1 : ByteArray) (t2 n2 : Int) (s2 : ByteArray) (_ : inR t0) (_ : inR n0) (_ : s0.size ≤ maxLen) (_ : inR t1) (_ : inR n1) (_ : s1.size ≤ maxLen) (_ : inR t2) (_ : inR n2) (_ : s2.size ≤ maxLen) (w : World) :
    Calls Try.prog 3 #[V t0 n0 s0, V t1 n1 s1, V t2 n2 s2] w fun e w' => e = .returned (.bool true) ∧ Below w.heap.size w w' := by
  cases h0 : (t0 != 0)
  · exact ordA t0 n0 s0 t1 n1 s1 t2 n2 s2 h0 w
  cases h1 : (t0 == t1)
  · exact ordB t0 n0 s0 t1 n1 s1 t2 n2 s2 h0 h1 w
  · exact ordC t0 n0 s0 t1 n1 s1 t2 n2 s2 h0 h1 w

end Go.Proofs.Ytpmkmemdammiaab
