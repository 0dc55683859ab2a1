/- The law ValueLaws, walked at true, false and null: it answers true; nothing that was there has turned. -/
import Derived.Test.YtpmkmemdammiaaaAlive
import Derived.Test.YtpmkmemdammiaaaTri
import Derived.LoopN
namespace Go.Proofs.Ytpmkmemdammiaaa
open Go.RowKit Go.Sort

theorem tri_veq {p q : Option Bool} (h : p = q) : veq (tT p) (tN p) E0 (tT q) (tN q) E0 = true := by subst h; simp [veq]
theorem tri_right (x : Option Bool) : (rightE (tT x) (tN x) E0 == 0) = true := by rcases x with _ | (_ | _) <;> simp [rightE, tT, tN]
theorem tri_le (x : Option Bool) : tT x ≤ 1 := by rcases x with _ | (_ | _) <;> simp [tT]
theorem fact0 (x y : Option Bool) : and3 x y = and3 y x := by rcases x with _ | (_ | _) <;> rcases y with _ | (_ | _) <;> rfl
theorem fact1 (x y : Option Bool) : or3 x y = or3 y x := by rcases x with _ | (_ | _) <;> rcases y with _ | (_ | _) <;> rfl
theorem fact2 (x y z : Option Bool) : and3 x (and3 y z) = and3 (and3 x y) z := by rcases x with _ | (_ | _) <;> rcases y with _ | (_ | _) <;> rcases z with _ | (_ | _) <;> rfl
theorem fact3 (x y z : Option Bool) : or3 x (or3 y z) = or3 (or3 x y) z := by rcases x with _ | (_ | _) <;> rcases y with _ | (_ | _) <;> rcases z with _ | (_ | _) <;> rfl
theorem fact4 (x y : Option Bool) : and3 x (or3 x y) = x := by rcases x with _ | (_ | _) <;> rcases y with _ | (_ | _) <;> rfl
theorem fact5 (x y : Option Bool) : or3 x (and3 x y) = x := by rcases x with _ | (_ | _) <;> rcases y with _ | (_ | _) <;> rfl
theorem fact6 (x y : Option Bool) : not3 (and3 x y) = or3 (not3 x) (not3 y) := by rcases x with _ | (_ | _) <;> rcases y with _ | (_ | _) <;> rfl
theorem fact7 (x y : Option Bool) : not3 (or3 x y) = and3 (not3 x) (not3 y) := by rcases x with _ | (_ | _) <;> rcases y with _ | (_ | _) <;> rfl
theorem fact8 (x : Option Bool) : not3 (not3 x) = x := by rcases x with _ | (_ | _) <;> rfl
theorem fact9 (x y z : Option Bool) : and3 x (or3 y z) = or3 (and3 x y) (and3 x z) := by rcases x with _ | (_ | _) <;> rcases y with _ | (_ | _) <;> rcases z with _ | (_ | _) <;> rfl
set_option maxRecDepth 100000 in
set_option maxHeartbeats 8000000 in
theorem lawsMain (x y z : Option Bool) (w : World) :
    Calls Try.prog 4 #[VT x, VT y, VT z] w fun e w' => e = .returned (.bool true) ∧ Below w.heap.size w w' := by
  have r0 := tri_right x
  have r1 := tri_right y
  have r2 := tri_right z
  have g0 := tri_le x
  have g1 := tri_le y
  have g2 := tri_le z
  go_enter Try.func4, Try.ntmps4
  have b : Below w.heap.size w w := Below.refl _ _
  go_wp2_with fail
  refine wp_loop_rounds 4 ?_
  rw [rounds_succ]
  go_wp2_with fail
  replace b : Below w.heap.size w ((((w.alloc (.cells #[.int .i64 (tT x), .int .i64 (tN x), .string E0] 23)).alloc (.cells #[.int .i64 (tT y), .int .i64 (tN y), .string E0] 23)).alloc (.cells #[.int .i64 (tT z), .int .i64 (tN z), .string E0] 23)).alloc (.cells #[.int .i64 (tT x), .int .i64 (tN x), .string E0, .int .i64 (tT y), .int .i64 (tN y), .string E0, .int .i64 (tT z), .int .i64 (tN z), .string E0] 23)) := ((((Below.refl _ _).alloc (Nat.le_refl _) _).alloc (by simp) _).alloc (by simp; omega) _).alloc (by simp; omega) _
  have bb : Below ((((w.alloc (.cells #[.int .i64 (tT x), .int .i64 (tN x), .string E0] 23)).alloc (.cells #[.int .i64 (tT y), .int .i64 (tN y), .string E0] 23)).alloc (.cells #[.int .i64 (tT z), .int .i64 (tN z), .string E0] 23)).alloc (.cells #[.int .i64 (tT x), .int .i64 (tN x), .string E0, .int .i64 (tT y), .int .i64 (tN y), .string E0, .int .i64 (tT z), .int .i64 (tN z), .string E0] 23)).heap.size ((((w.alloc (.cells #[.int .i64 (tT x), .int .i64 (tN x), .string E0] 23)).alloc (.cells #[.int .i64 (tT y), .int .i64 (tN y), .string E0] 23)).alloc (.cells #[.int .i64 (tT z), .int .i64 (tN z), .string E0] 23)).alloc (.cells #[.int .i64 (tT x), .int .i64 (tN x), .string E0, .int .i64 (tT y), .int .i64 (tN y), .string E0, .int .i64 (tT z), .int .i64 (tN z), .string E0] 23)) ((((w.alloc (.cells #[.int .i64 (tT x), .int .i64 (tN x), .string E0] 23)).alloc (.cells #[.int .i64 (tT y), .int .i64 (tN y), .string E0] 23)).alloc (.cells #[.int .i64 (tT z), .int .i64 (tN z), .string E0] 23)).alloc (.cells #[.int .i64 (tT x), .int .i64 (tN x), .string E0, .int .i64 (tT y), .int .i64 (tN y), .string E0, .int .i64 (tT z), .int .i64 (tN z), .string E0] 23)) := Below.refl _ _
  have k : Below ((((w.alloc (.cells #[.int .i64 (tT x), .int .i64 (tN x), .string E0] 23)).alloc (.cells #[.int .i64 (tT y), .int .i64 (tN y), .string E0] 23)).alloc (.cells #[.int .i64 (tT z), .int .i64 (tN z), .string E0] 23)).alloc (.cells #[.int .i64 (tT x), .int .i64 (tN x), .string E0, .int .i64 (tT y), .int .i64 (tN y), .string E0, .int .i64 (tT z), .int .i64 (tN z), .string E0] 23)).heap.size ((((w.alloc (.cells #[.int .i64 (tT x), .int .i64 (tN x), .string E0] 23)).alloc (.cells #[.int .i64 (tT y), .int .i64 (tN y), .string E0] 23)).alloc (.cells #[.int .i64 (tT z), .int .i64 (tN z), .string E0] 23)).alloc (.cells #[.int .i64 (tT x), .int .i64 (tN x), .string E0, .int .i64 (tT y), .int .i64 (tN y), .string E0, .int .i64 (tT z), .int .i64 (tN z), .string E0] 23)) (((((w.alloc (.cells #[.int .i64 (tT x), .int .i64 (tN x), .string E0] 23)).alloc (.cells #[.int .i64 (tT y), .int .i64 (tN y), .string E0] 23)).alloc (.cells #[.int .i64 (tT z), .int .i64 (tN z), .string E0] 23)).alloc (.cells #[.int .i64 (tT x), .int .i64 (tN x), .string E0, .int .i64 (tT y), .int .i64 (tN y), .string E0, .int .i64 (tT z), .int .i64 (tN z), .string E0] 23)).alloc (.cells #[.int .i64 (tT x), .int .i64 (tN x), .string E0] 23)) := (Below.refl _ _).alloc (Nat.le_refl _) _
  replace b := btrans b k
  replace bb := btrans bb k
  clear k
  have pv : At (((((w.alloc (.cells #[.int .i64 (tT x), .int .i64 (tN x), .string E0] 23)).alloc (.cells #[.int .i64 (tT y), .int .i64 (tN y), .string E0] 23)).alloc (.cells #[.int .i64 (tT z), .int .i64 (tN z), .string E0] 23)).alloc (.cells #[.int .i64 (tT x), .int .i64 (tN x), .string E0, .int .i64 (tT y), .int .i64 (tN y), .string E0, .int .i64 (tT z), .int .i64 (tN z), .string E0] 23)).alloc (.cells #[.int .i64 (tT x), .int .i64 (tN x), .string E0] 23)) (w.heap.size + 1 + 1 + 1 + 1) (tT x) (tN x) E0 := by simpa using At.alloc ((((w.alloc (.cells #[.int .i64 (tT x), .int .i64 (tN x), .string E0] 23)).alloc (.cells #[.int .i64 (tT y), .int .i64 (tN y), .string E0] 23)).alloc (.cells #[.int .i64 (tT z), .int .i64 (tN z), .string E0] 23)).alloc (.cells #[.int .i64 (tT x), .int .i64 (tN x), .string E0, .int .i64 (tT y), .int .i64 (tN y), .string E0, .int .i64 (tT z), .int .i64 (tN z), .string E0] 23)) (tT x) (tN x) E0
  refine (lawRight_any _ _ _ _).mono ?_
  rintro e w1 ⟨rfl, k⟩
  replace b := btrans b k
  replace bb := btrans bb k
  replace pv := pv.keep k
  clear k
  obtain ⟨hcb, hfb⟩ := bcell bb
  have zb : w.heap.size + 1 + 1 + 1 + 1 ≤ w1.heap.size := by have := bb.size; simp at this; omega
  have zb0 : w.heap.size < w1.heap.size := by omega
  have zb1 : w.heap.size + 1 < w1.heap.size := by omega
  have zb2 : w.heap.size + 1 + 1 < w1.heap.size := by omega
  have zb3 : w.heap.size + 1 + 1 + 1 < w1.heap.size := by omega
  clear zb
  have qpv : _ ∧ _ ∧ _ := pv
  have zpv : w.heap.size + 1 + 1 + 1 + 1 < w1.heap.size := block_lt_of_cell pv.1
  go_wp2_with fail
  rw [rounds_succ]
  go_wp2_with fail
  clear qpv zpv
  clear hcb hfb zb0 zb1 zb2 zb3
  clear pv
  have k : Below w1.heap.size w1 (w1.alloc (.cells #[.int .i64 (tT y), .int .i64 (tN y), .string E0] 23)) := (Below.refl _ _).alloc (Nat.le_refl _) _
  replace b := btrans b k
  replace bb := btrans bb k
  clear k
  have pv := At.alloc w1 (tT y) (tN y) E0
  refine (lawRight_any _ _ _ _).mono ?_
  rintro e w2 ⟨rfl, k⟩
  replace b := btrans b k
  replace bb := btrans bb k
  replace pv := pv.keep k
  clear k
  obtain ⟨hcb, hfb⟩ := bcell bb
  have zb : w.heap.size + 1 + 1 + 1 + 1 ≤ w2.heap.size := by have := bb.size; simp at this; omega
  have zb0 : w.heap.size < w2.heap.size := by omega
  have zb1 : w.heap.size + 1 < w2.heap.size := by omega
  have zb2 : w.heap.size + 1 + 1 < w2.heap.size := by omega
  have zb3 : w.heap.size + 1 + 1 + 1 < w2.heap.size := by omega
  clear zb
  have qpv : _ ∧ _ ∧ _ := pv
  have zpv : w1.heap.size < w2.heap.size := block_lt_of_cell pv.1
  go_wp2_with fail
  rw [rounds_succ]
  go_wp2_with fail
  clear qpv zpv
  clear hcb hfb zb0 zb1 zb2 zb3
  clear pv
  have k : Below w2.heap.size w2 (w2.alloc (.cells #[.int .i64 (tT z), .int .i64 (tN z), .string E0] 23)) := (Below.refl _ _).alloc (Nat.le_refl _) _
  replace b := btrans b k
  replace bb := btrans bb k
  clear k
  have pv := At.alloc w2 (tT z) (tN z) E0
  refine (lawRight_any _ _ _ _).mono ?_
  rintro e w3 ⟨rfl, k⟩
  replace b := btrans b k
  replace bb := btrans bb k
  replace pv := pv.keep k
  clear k
  obtain ⟨hcb, hfb⟩ := bcell bb
  have zb : w.heap.size + 1 + 1 + 1 + 1 ≤ w3.heap.size := by have := bb.size; simp at this; omega
  have zb0 : w.heap.size < w3.heap.size := by omega
  have zb1 : w.heap.size + 1 < w3.heap.size := by omega
  have zb2 : w.heap.size + 1 + 1 < w3.heap.size := by omega
  have zb3 : w.heap.size + 1 + 1 + 1 < w3.heap.size := by omega
  clear zb
  have qpv : _ ∧ _ ∧ _ := pv
  have zpv : w2.heap.size < w3.heap.size := block_lt_of_cell pv.1
  go_wp2_with fail
  rw [rounds_succ]
  go_wp2_with fail
  clear qpv zpv
  clear hcb hfb zb0 zb1 zb2 zb3
  clear pv
  have pa : At w3 w.heap.size (tT x) (tN x) E0 := At.keep (by simp [At, go_sem]) bb
  have pb : At w3 (w.heap.size + 1) (tT y) (tN y) E0 := At.keep (by simp [At, go_sem]) bb
  have pc : At w3 (w.heap.size + 1 + 1) (tT z) (tN z) E0 := At.keep (by simp [At, go_sem]) bb
  have k : Below w3.heap.size w3 (w3.alloc (.cells #[.bool true] 4)) := (Below.refl _ _).alloc (Nat.le_refl _) _
  replace b := btrans b k
  replace pa := pa.keep k
  replace pb := pb.keep k
  replace pc := pc.keep k
  have hk : (w3.alloc (.cells #[.bool true] 4)).cell? ⟨w3.heap.size, 0, none⟩ = some (.bool true) := by simp [go_sem]
  have hf : (w3.alloc (.cells #[.bool true] 4)).frozen? ⟨w3.heap.size, 0, none⟩ = false := by simp [go_sem]
  clear k bb r0 r1 r2 g0 g1 g2
  have hv := run_veq
  have v0 := tri_veq (fact0 x y)
  have v1 := tri_veq (fact1 x y)
  have v2 := tri_veq (fact2 x y z)
  have v3 := tri_veq (fact3 x y z)
  have v4 := tri_veq (fact4 x y)
  have v5 := tri_veq (fact5 x y)
  have v6 := tri_veq (fact6 x y)
  have v7 := tri_veq (fact7 x y)
  have v8 := tri_veq (fact8 x)
  have v9 := tri_veq (fact9 x y z)
  have ca := pa.cells
  have cb := pb.cells
  have cc := pc.cells
  have ck := fun d os => cell_regrown hk d os
  have fk := fun d os => ((below_regrown (w3.alloc (.cells #[.bool true] 4)) d os).frozen (p := ⟨w3.heap.size, 0, none⟩) (block_lt_of_cell hk)).trans hf
  refine wp_region_quiet_below (by kernel_rfl) (by kernel_rfl) ?_
  repeat (first | go_big_quiet_step (first | (go_at_call 19; exact Calls.regrown_of (clAnd _ _ _ _ (ck _ _) (fk _ _))) | (go_at_call 21; exact Calls.regrown_of (clOr _ _ _ _ (ck _ _) (fk _ _))) | (go_at_call 23; exact Calls.regrown_of (clNot _ _ _ (ck _ _) (fk _ _))) | (go_at_call 17; exact Calls.regrown_of (alive_any _))) | quiet_step (first | (go_at_call 19; exact Calls.regrown_of (clAnd _ _ _ _ (ck _ _) (fk _ _))) | (go_at_call 21; exact Calls.regrown_of (clOr _ _ _ _ (ck _ _) (fk _ _))) | (go_at_call 23; exact Calls.regrown_of (clNot _ _ _ (ck _ _) (fk _ _))) | (go_at_call 17; exact Calls.regrown_of (alive_any _))))
  refine wpQuiet_nil ?_
  rintro _ ⟨⟨dq, osq⟩, rfl⟩
  have k := below_regrown (w3.alloc (.cells #[.bool true] 4)) dq osq
  clear ca cb cc ck fk
  generalize grow (redrawn (w3.alloc (.cells #[.bool true] 4)) dq) osq = w4 at k ⊢
  replace b := btrans b k
  replace pa := pa.keep k
  replace pb := pb.keep k
  replace pc := pc.keep k
  replace hf := (k.frozen (p := ⟨w3.heap.size, 0, none⟩) (block_lt_of_cell hk)).trans hf
  replace hk := (k.cell (p := ⟨w3.heap.size, 0, none⟩) (block_lt_of_cell hk)).trans hk
  clear k
  go_wp2_with fail
  have ca := pa.cells
  have cb := pb.cells
  have cc := pc.cells
  have ck := fun d os => cell_regrown hk d os
  have fk := fun d os => ((below_regrown w4 d os).frozen (p := ⟨w3.heap.size, 0, none⟩) (block_lt_of_cell hk)).trans hf
  refine wp_region_quiet_below (by kernel_rfl) (by kernel_rfl) ?_
  repeat (first | go_big_quiet_step (first | (go_at_call 19; exact Calls.regrown_of (clAnd _ _ _ _ (ck _ _) (fk _ _))) | (go_at_call 21; exact Calls.regrown_of (clOr _ _ _ _ (ck _ _) (fk _ _))) | (go_at_call 23; exact Calls.regrown_of (clNot _ _ _ (ck _ _) (fk _ _))) | (go_at_call 17; exact Calls.regrown_of (alive_any _))) | quiet_step (first | (go_at_call 19; exact Calls.regrown_of (clAnd _ _ _ _ (ck _ _) (fk _ _))) | (go_at_call 21; exact Calls.regrown_of (clOr _ _ _ _ (ck _ _) (fk _ _))) | (go_at_call 23; exact Calls.regrown_of (clNot _ _ _ (ck _ _) (fk _ _))) | (go_at_call 17; exact Calls.regrown_of (alive_any _))))
  refine wpQuiet_nil ?_
  rintro _ ⟨⟨dq, osq⟩, rfl⟩
  have k := below_regrown w4 dq osq
  clear ca cb cc ck fk
  generalize grow (redrawn w4 dq) osq = w5 at k ⊢
  replace b := btrans b k
  replace pa := pa.keep k
  replace pb := pb.keep k
  replace pc := pc.keep k
  replace hf := (k.frozen (p := ⟨w3.heap.size, 0, none⟩) (block_lt_of_cell hk)).trans hf
  replace hk := (k.cell (p := ⟨w3.heap.size, 0, none⟩) (block_lt_of_cell hk)).trans hk
  clear k
  go_wp2_with fail
  have ca := pa.cells
  have cb := pb.cells
  have cc := pc.cells
  have ck := fun d os => cell_regrown hk d os
  have fk := fun d os => ((below_regrown w5 d os).frozen (p := ⟨w3.heap.size, 0, none⟩) (block_lt_of_cell hk)).trans hf
  refine wp_region_quiet_below (by kernel_rfl) (by kernel_rfl) ?_
  repeat (first | go_big_quiet_step (first | (go_at_call 19; exact Calls.regrown_of (clAnd _ _ _ _ (ck _ _) (fk _ _))) | (go_at_call 21; exact Calls.regrown_of (clOr _ _ _ _ (ck _ _) (fk _ _))) | (go_at_call 23; exact Calls.regrown_of (clNot _ _ _ (ck _ _) (fk _ _))) | (go_at_call 17; exact Calls.regrown_of (alive_any _))) | quiet_step (first | (go_at_call 19; exact Calls.regrown_of (clAnd _ _ _ _ (ck _ _) (fk _ _))) | (go_at_call 21; exact Calls.regrown_of (clOr _ _ _ _ (ck _ _) (fk _ _))) | (go_at_call 23; exact Calls.regrown_of (clNot _ _ _ (ck _ _) (fk _ _))) | (go_at_call 17; exact Calls.regrown_of (alive_any _))))
  refine wpQuiet_nil ?_
  rintro _ ⟨⟨dq, osq⟩, rfl⟩
  have k := below_regrown w5 dq osq
  clear ca cb cc ck fk
  generalize grow (redrawn w5 dq) osq = w6 at k ⊢
  replace b := btrans b k
  replace pa := pa.keep k
  replace pb := pb.keep k
  replace pc := pc.keep k
  replace hf := (k.frozen (p := ⟨w3.heap.size, 0, none⟩) (block_lt_of_cell hk)).trans hf
  replace hk := (k.cell (p := ⟨w3.heap.size, 0, none⟩) (block_lt_of_cell hk)).trans hk
  clear k
  go_wp2_with fail
  go_ret
  exact ⟨rfl, b⟩

end Go.Proofs.Ytpmkmemdammiaaa
