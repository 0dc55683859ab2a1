/- Contract of how the program reads a value that is no text. -/
import Derived.Test.YtcnbbmgclphfdaaDoorRpValue
import Derived.Test.YtcnbbmgclphfdaaDoorRpNum
import Derived.Lib.SmallJoins
namespace Go.Proofs.YtcnbbmgclphfdaaDoor
open Go.RowKit Go.Sort

abbrev nullT : ByteArray := ⟨#[110, 117, 108, 108]⟩
abbrev trueT : ByteArray := ⟨#[116, 114, 117, 101]⟩
abbrev falseT : ByteArray := ⟨#[102, 97, 108, 115, 101]⟩

theorem below_drew {B : Nat} {a w : World} (h : Below B a w) : Below B a w.drew := h.trans ⟨rfl, rfl, rfl, Nat.le_refl _, fun _ _ => rfl⟩
theorem atoi_any (w : World) (n : Int) (hn : inR n) : Calls Tryd.prog 79 #[.string (decB n)] w fun e w' => e = .returned (.tuple #[.int .i64 n, .nilIface]) ∧ Below w.heap.size w w' := by
  refine (Tryd.strconv_Atoi_ok (decB n) ?_ n ?_ w).mono ?_
  · have := decB_size hn.1 hn.2; omega
  · rw [decB_data]; exact atoi_itoa hn.1 hn.2
  · rintro e w' ⟨rfl, hw⟩
    refine ⟨rfl, ?_⟩
    rcases hw with rfl | ⟨t, rfl⟩
    · exact Below.refl _ _
    · exact Go.Joins.below_bytesWorld _ _ _ _ (Nat.le_refl _)
/-- A call as a step of a region whose order is left open, where it is wanted. -/
theorem step_callW {ops : Array Oper} {o : Oper} {a : Act} {w : World} {K : Act → World → Prop} {Q : Exit → Act → World → Prop} {E : Prop} (f : Nat) (vs : Array Value)
    (hw : Region.wanted o (yielded ops a.tmps) = true) (hrun : (execOp a.eval o).run Tryd.prog w = .ok (.enter f vs) w)
    (h : Calls Tryd.prog f vs w fun e w' => ∃ v, e = .returned v ∧ K (a.put o.dst v) w') :
    if Region.wanted o (yielded ops a.tmps) = true then Oper.wp Tryd.prog o a w K Q else E := by
  rw [if_pos hw]
  unfold Oper.wp
  rw [hrun]
  exact h.mono fun e w' ⟨v, he, hk⟩ => by subst he; exact hk

abbrev threeA : Array Value := #[.int .i64 0, .int .i64 0, .string E0, .int .i64 1, .int .i64 0, .string E0, .int .i64 1, .int .i64 1, .string E0]
theorem ix0 (w : World) : (Instr.index 108 (.agg threeA) (.int .i64 0)).run Tryd.prog w = .ok (V 0 0 E0) w := by kernel_rfl
theorem ix1 (w : World) : (Instr.index 108 (.agg threeA) (.int .i64 1)).run Tryd.prog w = .ok (V 1 0 E0) w := by kernel_rfl
theorem ix2 (w : World) : (Instr.index 108 (.agg threeA) (.int .i64 2)).run Tryd.prog w = .ok (V 1 1 E0) w := by kernel_rfl

set_option maxHeartbeats 2000000 in
set_option maxRecDepth 100000 in
theorem plain_int (w : World) (hG : Glob w) (n : Int) (hn : inR n) :
    Calls Tryd.prog 65 #[.string (decB n)] w fun e w' => e = .returned (.tuple #[V 2 n E0, .bool true]) ∧ Below w.heap.size w w' := by
  have v0 : Hid (∀ w0, Glob w0 → Calls Tryd.prog 11 #[V 0 0 E0] w0 fun e w' => e = .returned (.string nullT) ∧ Below w0.heap.size w0 w') := fun w0 g => value_any w0 g 0 0 E0 (by unfold inR; omega) (by decide)
  have v1 : Hid (∀ w0, Glob w0 → Calls Tryd.prog 11 #[V 1 0 E0] w0 fun e w' => e = .returned (.string falseT) ∧ Below w0.heap.size w0 w') := fun w0 g => value_any w0 g 1 0 E0 (by unfold inR; omega) (by decide)
  have v2 : Hid (∀ w0, Glob w0 → Calls Tryd.prog 11 #[V 1 1 E0] w0 fun e w' => e = .returned (.string trueT) ∧ Below w0.heap.size w0 w') := fun w0 g => by
    have := value_any w0 g 1 1 E0 (by unfold inR; omega) (by decide)
    rwa [show valB 1 1 E0 = trueT by decide +kernel] at this
  have v3 : Hid (∀ w0, Glob w0 → Calls Tryd.prog 11 #[V 2 n E0] w0 fun e w' => e = .returned (.string (decB n)) ∧ Below w0.heap.size w0 w') := fun w0 g => value_any w0 g 2 n E0 hn (by decide)
  obtain ⟨W0, hW0⟩ : ∃ W0, W0 = w.alloc (.cells #[.int .i64 0, .int .i64 0, .string E0] 28) := ⟨_, rfl⟩
  have b0 : Below w.heap.size w W0 := by rw [hW0]; exact (Below.refl _ _).alloc (Nat.le_refl _) _
  have hs0 : W0.heap.size = w.heap.size + 1 := by rw [hW0]; simp
  have hA : W0.heap[w.heap.size]? = some (.cells #[.int .i64 0, .int .i64 0, .string E0] 28 (0, 0)) := by rw [hW0]; exact heap_alloc_new w _
  go_enter Tryd.func65, Tryd.ntmps65
  go_wp2_with fail
  rw [← hW0]
  refine (null_any W0).mono ?_
  rintro e w1 ⟨rfl, b1⟩
  go_wp2_with fail
  refine (bool_any false w1).mono ?_
  rintro e w2 ⟨rfl, b2⟩
  replace b1 := btrans b1 b2
  go_wp2_with fail
  refine (bool_any true w2).mono ?_
  rintro e w3 ⟨rfl, b3⟩
  replace b1 := btrans b1 b3
  rw [show oneOf false = 0 from rfl, show oneOf true = 1 from rfl]
  clear b2 b3 hW0
  go_wp2_with fail
  have hGr := (hG.keep b0).keep b1
  have ne0 : ([110, 117, 108, 108] == (decB n).toList) = false := by
    have := decB_ne (n := n) (s := nullT) rfl (by decide)
    rwa [ByteArray.toList_eq nullT] at this
  have ne1 : ([102, 97, 108, 115, 101] == (decB n).toList) = false := by
    have := decB_ne (n := n) (s := falseT) rfl (by decide)
    rwa [ByteArray.toList_eq falseT] at this
  have ne2 : ([116, 114, 117, 101] == (decB n).toList) = false := by
    have := decB_ne (n := n) (s := trueT) rfl (by decide)
    rwa [ByteArray.toList_eq trueT] at this
  have i0 := ix0
  have i1 := ix1
  have i2 := ix2
  refine wp_loop_rounds 4 ?_
  rw [rounds_succ]
  go_wp2_with fail
  refine (v0.out _ (hGr.keep ((Below.refl _ _).alloc (Nat.le_refl _) _))).mono ?_
  rintro e w4 ⟨rfl, b4⟩
  replace b4 := bnew b4
  replace hGr := hGr.keep b4
  replace b1 := btrans b1 b4
  go_wp2_with fail
  rw [rounds_succ]
  go_wp2_with fail
  refine (v1.out _ (hGr.keep ((Below.refl _ _).alloc (Nat.le_refl _) _))).mono ?_
  rintro e w5 ⟨rfl, b5⟩
  replace b5 := bnew b5
  replace hGr := hGr.keep b5
  replace b1 := btrans b1 b5
  go_wp2_with fail
  rw [rounds_succ]
  go_wp2_with fail
  refine (v2.out _ (hGr.keep ((Below.refl _ _).alloc (Nat.le_refl _) _))).mono ?_
  rintro e w6 ⟨rfl, b6⟩
  replace b6 := bnew b6
  replace hGr := hGr.keep b6
  replace b1 := btrans b1 b6
  go_wp2_with fail
  rw [rounds_succ]
  go_wp2_with fail
  refine (atoi_any w6 n hn).mono ?_
  rintro e w7 ⟨rfl, b7⟩
  replace hGr := hGr.keep b7
  replace b1 := btrans b1 b7
  go_wp2_with fail
  refine (int_any n w7).mono ?_
  rintro e w8 ⟨rfl, b8⟩
  replace hGr := hGr.keep b8
  replace b1 := btrans b1 b8
  clear b4 b5 b6 b7 b8
  go_wp2_with fail
  obtain ⟨Wx, hWx⟩ : ∃ Wx, Wx = w8.alloc (.cells #[.int .i64 2, .int .i64 n, .string E0] 28) := ⟨_, rfl⟩
  rw [← hWx]
  have bx : Below w8.heap.size w8 Wx := by rw [hWx]; exact (Below.refl _ _).alloc (Nat.le_refl _) _
  have c0 : Wx.cell? ⟨w8.heap.size, 0, none⟩ = some (.int .i64 2) := by rw [hWx]; simp [go_sem]
  have c1 : Wx.cell? ⟨w8.heap.size, 1, none⟩ = some (.int .i64 n) := by rw [hWx]; simp [go_sem]
  have c2 : Wx.cell? ⟨w8.heap.size, 2, none⟩ = some (.string E0) := by rw [hWx]; simp [go_sem]
  replace b1 : Below (w.heap.size + 1) W0 Wx := by rw [← hs0]; exact btrans b1 bx
  have bw : Below w.heap.size w Wx := b0.trans (b1.mono (by omega))
  replace hGr := hGr.keep bx
  have hAx : Wx.heap[w.heap.size]? = some (.cells #[.int .i64 0, .int .i64 0, .string E0] 28 (0, 0)) := (b1.block w.heap.size (by omega)).trans hA
  clear hWx bx b0 hA b1 i0 i1 i2 ne0 ne1 ne2 v0 v1 v2
  have hlt : w.heap.size < Wx.heap.size := (Array.getElem?_eq_some_iff.1 hAx).1
  have kx : Hid (∀ w9, Below Wx.drew.heap.size Wx.drew w9 → (w9.cell? ⟨w.heap.size, 0, none⟩ = some (.int .i64 0) ∧ w9.cell? ⟨w.heap.size, 1, none⟩ = some (.int .i64 0) ∧ w9.cell? ⟨w.heap.size, 2, none⟩ = some (.string E0)) ∧ (w9.frozen? ⟨w.heap.size, 0, none⟩ = false ∧ w9.frozen? ⟨w.heap.size, 1, none⟩ = false ∧ w9.frozen? ⟨w.heap.size, 2, none⟩ = false) ∧ (w9.cell? ⟨w8.heap.size, 0, none⟩ = some (.int .i64 2) ∧ w9.cell? ⟨w8.heap.size, 1, none⟩ = some (.int .i64 n) ∧ w9.cell? ⟨w8.heap.size, 2, none⟩ = some (.string E0)) ∧ Below w.heap.size w w9) := by
    intro w9 b9
    have hA9 : w9.heap[w.heap.size]? = some (.cells #[.int .i64 0, .int .i64 0, .string E0] 28 (0, 0)) := (b9.block w.heap.size hlt).trans hAx
    refine ⟨⟨?_, ?_, ?_⟩, ⟨frozen_of_row w9 w.heap.size 0 _ _ hA9, frozen_of_row w9 w.heap.size 1 _ _ hA9, frozen_of_row w9 w.heap.size 2 _ _ hA9⟩, ⟨cell_keep (w := Wx.drew) c0 b9, cell_keep (w := Wx.drew) c1 b9, cell_keep (w := Wx.drew) c2 b9⟩, ?_⟩
    · rw [cell_of_row w9 w.heap.size 0 _ _ _ hA9]; rfl
    · rw [cell_of_row w9 w.heap.size 1 _ _ _ hA9]; rfl
    · rw [cell_of_row w9 w.heap.size 2 _ _ _ hA9]; rfl
    · exact (below_drew bw).trans (b9.mono (Nat.le_of_lt hlt))
  clear hAx bw hlt
  go_region_law (refine step_callW 11 #[V 2 n E0] rfl (by go_simp) ?_; refine (v3.out Wx.drew hGr).mono ?_; rintro e w9 ⟨rfl, b9⟩; refine ⟨_, rfl, ?_⟩; obtain ⟨⟨q0, q1, q2⟩, ⟨f0, f1, f2⟩, ⟨d0, d1, d2⟩, bw9⟩ := kx.out w9 b9)
  all_goals
    go_wp2_with fail
    exact bodyPost_ret (v := .tuple #[V 2 n E0, .bool true]) (by simp [results, Tryd.results65, go_sem, q0, q1, q2]) rfl ⟨rfl, bset3 bw9 (Nat.le_refl _) _ _ _⟩

set_option maxHeartbeats 2000000 in
set_option maxRecDepth 100000 in
theorem plain_null (w : World) (hG : Glob w) :
    Calls Tryd.prog 65 #[.string nullT] w fun e w' => e = .returned (.tuple #[V 0 0 E0, .bool true]) ∧ Below w.heap.size w w' := by
  have v0 : Hid (∀ w0, Glob w0 → Calls Tryd.prog 11 #[V 0 0 E0] w0 fun e w' => e = .returned (.string nullT) ∧ Below w0.heap.size w0 w') := fun w0 g => value_any w0 g 0 0 E0 (by unfold inR; omega) (by decide)
  obtain ⟨W0, hW0⟩ : ∃ W0, W0 = w.alloc (.cells #[.int .i64 0, .int .i64 0, .string E0] 28) := ⟨_, rfl⟩
  have b0 : Below w.heap.size w W0 := by rw [hW0]; exact (Below.refl _ _).alloc (Nat.le_refl _) _
  have hs0 : W0.heap.size = w.heap.size + 1 := by rw [hW0]; simp
  have hA : W0.heap[w.heap.size]? = some (.cells #[.int .i64 0, .int .i64 0, .string E0] 28 (0, 0)) := by rw [hW0]; exact heap_alloc_new w _
  go_enter Tryd.func65, Tryd.ntmps65
  go_wp2_with fail
  rw [← hW0]
  refine (null_any W0).mono ?_
  rintro e w1 ⟨rfl, b1⟩
  go_wp2_with fail
  refine (bool_any false w1).mono ?_
  rintro e w2 ⟨rfl, b2⟩
  replace b1 := btrans b1 b2
  go_wp2_with fail
  refine (bool_any true w2).mono ?_
  rintro e w3 ⟨rfl, b3⟩
  replace b1 := btrans b1 b3
  rw [show oneOf false = 0 from rfl, show oneOf true = 1 from rfl]
  clear b2 b3 hW0
  go_wp2_with fail
  have hGr := (hG.keep b0).keep b1
  have i0 := ix0
  have i1 := ix1
  have i2 := ix2
  refine wp_loop_rounds 4 ?_
  rw [rounds_succ]
  go_wp2_with fail
  have ba0 : Below w3.heap.size w3 (w3.alloc (.cells #[.int .i64 0, .int .i64 0, .string E0] 28)) := (Below.refl _ _).alloc (Nat.le_refl _) _
  refine (v0.out _ (hGr.keep ba0)).mono ?_
  rintro e u0 ⟨rfl, bb0⟩
  have e0 := cell_keep (w := w3.alloc (.cells #[.int .i64 0, .int .i64 0, .string E0] 28)) (a := ⟨w3.heap.size, 0, none⟩) (by simp [go_sem]; rfl) bb0
  have e1 := cell_keep (w := w3.alloc (.cells #[.int .i64 0, .int .i64 0, .string E0] 28)) (a := ⟨w3.heap.size, 1, none⟩) (by simp [go_sem]; rfl) bb0
  have e2 := cell_keep (w := w3.alloc (.cells #[.int .i64 0, .int .i64 0, .string E0] 28)) (a := ⟨w3.heap.size, 2, none⟩) (by simp [go_sem]; rfl) bb0
  replace b1 := btrans b1 (bnew bb0)
  rw [hs0] at b1
  have hA9 : u0.heap[w.heap.size]? = some (.cells #[.int .i64 0, .int .i64 0, .string E0] 28 (0, 0)) := (b1.block w.heap.size (by omega)).trans hA
  have q0 : u0.cell? ⟨w.heap.size, 0, none⟩ = some (.int .i64 0) := by rw [cell_of_row u0 w.heap.size 0 _ _ _ hA9]; rfl
  have q1 : u0.cell? ⟨w.heap.size, 1, none⟩ = some (.int .i64 0) := by rw [cell_of_row u0 w.heap.size 1 _ _ _ hA9]; rfl
  have q2 : u0.cell? ⟨w.heap.size, 2, none⟩ = some (.string E0) := by rw [cell_of_row u0 w.heap.size 2 _ _ _ hA9]; rfl
  have f0 := frozen_of_row u0 w.heap.size 0 _ _ hA9
  have f1 := frozen_of_row u0 w.heap.size 1 _ _ hA9
  have f2 := frozen_of_row u0 w.heap.size 2 _ _ hA9
  have bw : Below w.heap.size w u0 := b0.trans (b1.mono (by omega))
  clear hA hA9 b0 b1 hGr ba0 bb0
  go_wp2_with fail
  exact bodyPost_ret (v := .tuple #[V 0 0 E0, .bool true]) (by simp [results, Tryd.results65, go_sem, q0, q1, q2]) rfl ⟨rfl, bset3 bw (Nat.le_refl _) _ _ _⟩

set_option maxHeartbeats 2000000 in
set_option maxRecDepth 100000 in
theorem plain_false (w : World) (hG : Glob w) :
    Calls Tryd.prog 65 #[.string falseT] w fun e w' => e = .returned (.tuple #[V 1 0 E0, .bool true]) ∧ Below w.heap.size w w' := by
  have v0 : Hid (∀ w0, Glob w0 → Calls Tryd.prog 11 #[V 0 0 E0] w0 fun e w' => e = .returned (.string nullT) ∧ Below w0.heap.size w0 w') := fun w0 g => value_any w0 g 0 0 E0 (by unfold inR; omega) (by decide)
  have v1 : Hid (∀ w0, Glob w0 → Calls Tryd.prog 11 #[V 1 0 E0] w0 fun e w' => e = .returned (.string falseT) ∧ Below w0.heap.size w0 w') := fun w0 g => value_any w0 g 1 0 E0 (by unfold inR; omega) (by decide)
  obtain ⟨W0, hW0⟩ : ∃ W0, W0 = w.alloc (.cells #[.int .i64 0, .int .i64 0, .string E0] 28) := ⟨_, rfl⟩
  have b0 : Below w.heap.size w W0 := by rw [hW0]; exact (Below.refl _ _).alloc (Nat.le_refl _) _
  have hs0 : W0.heap.size = w.heap.size + 1 := by rw [hW0]; simp
  have hA : W0.heap[w.heap.size]? = some (.cells #[.int .i64 0, .int .i64 0, .string E0] 28 (0, 0)) := by rw [hW0]; exact heap_alloc_new w _
  go_enter Tryd.func65, Tryd.ntmps65
  go_wp2_with fail
  rw [← hW0]
  refine (null_any W0).mono ?_
  rintro e w1 ⟨rfl, b1⟩
  go_wp2_with fail
  refine (bool_any false w1).mono ?_
  rintro e w2 ⟨rfl, b2⟩
  replace b1 := btrans b1 b2
  go_wp2_with fail
  refine (bool_any true w2).mono ?_
  rintro e w3 ⟨rfl, b3⟩
  replace b1 := btrans b1 b3
  rw [show oneOf false = 0 from rfl, show oneOf true = 1 from rfl]
  clear b2 b3 hW0
  go_wp2_with fail
  have hGr := (hG.keep b0).keep b1
  have i0 := ix0
  have i1 := ix1
  have i2 := ix2
  refine wp_loop_rounds 4 ?_
  rw [rounds_succ]
  go_wp2_with fail
  have ba0 : Below w3.heap.size w3 (w3.alloc (.cells #[.int .i64 0, .int .i64 0, .string E0] 28)) := (Below.refl _ _).alloc (Nat.le_refl _) _
  refine (v0.out _ (hGr.keep ba0)).mono ?_
  rintro e u0 ⟨rfl, bb0⟩
  replace bb0 := bnew bb0
  replace hGr := hGr.keep bb0
  replace b1 := btrans b1 bb0
  go_wp2_with fail
  rw [rounds_succ]
  go_wp2_with fail
  have ba1 : Below u0.heap.size u0 (u0.alloc (.cells #[.int .i64 1, .int .i64 0, .string E0] 28)) := (Below.refl _ _).alloc (Nat.le_refl _) _
  refine (v1.out _ (hGr.keep ba1)).mono ?_
  rintro e u1 ⟨rfl, bb1⟩
  have e0 := cell_keep (w := u0.alloc (.cells #[.int .i64 1, .int .i64 0, .string E0] 28)) (a := ⟨u0.heap.size, 0, none⟩) (by simp [go_sem]; rfl) bb1
  have e1 := cell_keep (w := u0.alloc (.cells #[.int .i64 1, .int .i64 0, .string E0] 28)) (a := ⟨u0.heap.size, 1, none⟩) (by simp [go_sem]; rfl) bb1
  have e2 := cell_keep (w := u0.alloc (.cells #[.int .i64 1, .int .i64 0, .string E0] 28)) (a := ⟨u0.heap.size, 2, none⟩) (by simp [go_sem]; rfl) bb1
  replace b1 := btrans b1 (bnew bb1)
  rw [hs0] at b1
  have hA9 : u1.heap[w.heap.size]? = some (.cells #[.int .i64 0, .int .i64 0, .string E0] 28 (0, 0)) := (b1.block w.heap.size (by omega)).trans hA
  have q0 : u1.cell? ⟨w.heap.size, 0, none⟩ = some (.int .i64 0) := by rw [cell_of_row u1 w.heap.size 0 _ _ _ hA9]; rfl
  have q1 : u1.cell? ⟨w.heap.size, 1, none⟩ = some (.int .i64 0) := by rw [cell_of_row u1 w.heap.size 1 _ _ _ hA9]; rfl
  have q2 : u1.cell? ⟨w.heap.size, 2, none⟩ = some (.string E0) := by rw [cell_of_row u1 w.heap.size 2 _ _ _ hA9]; rfl
  have f0 := frozen_of_row u1 w.heap.size 0 _ _ hA9
  have f1 := frozen_of_row u1 w.heap.size 1 _ _ hA9
  have f2 := frozen_of_row u1 w.heap.size 2 _ _ hA9
  have bw : Below w.heap.size w u1 := b0.trans (b1.mono (by omega))
  clear hA hA9 b0 b1 hGr ba1 bb1
  go_wp2_with fail
  exact bodyPost_ret (v := .tuple #[V 1 0 E0, .bool true]) (by simp [results, Tryd.results65, go_sem, q0, q1, q2]) rfl ⟨rfl, bset3 bw (Nat.le_refl _) _ _ _⟩

set_option maxHeartbeats 2000000 in
set_option maxRecDepth 100000 in
theorem plain_true (w : World) (hG : Glob w) :
    Calls Tryd.prog 65 #[.string trueT] w fun e w' => e = .returned (.tuple #[V 1 1 E0, .bool true]) ∧ Below w.heap.size w w' := by
  have v0 : Hid (∀ w0, Glob w0 → Calls Tryd.prog 11 #[V 0 0 E0] w0 fun e w' => e = .returned (.string nullT) ∧ Below w0.heap.size w0 w') := fun w0 g => value_any w0 g 0 0 E0 (by unfold inR; omega) (by decide)
  have v1 : Hid (∀ w0, Glob w0 → Calls Tryd.prog 11 #[V 1 0 E0] w0 fun e w' => e = .returned (.string falseT) ∧ Below w0.heap.size w0 w') := fun w0 g => value_any w0 g 1 0 E0 (by unfold inR; omega) (by decide)
  have v2 : Hid (∀ w0, Glob w0 → Calls Tryd.prog 11 #[V 1 1 E0] w0 fun e w' => e = .returned (.string trueT) ∧ Below w0.heap.size w0 w') := fun w0 g => by
    have := value_any w0 g 1 1 E0 (by unfold inR; omega) (by decide)
    rwa [show valB 1 1 E0 = trueT by decide +kernel] at this
  obtain ⟨W0, hW0⟩ : ∃ W0, W0 = w.alloc (.cells #[.int .i64 0, .int .i64 0, .string E0] 28) := ⟨_, rfl⟩
  have b0 : Below w.heap.size w W0 := by rw [hW0]; exact (Below.refl _ _).alloc (Nat.le_refl _) _
  have hs0 : W0.heap.size = w.heap.size + 1 := by rw [hW0]; simp
  have hA : W0.heap[w.heap.size]? = some (.cells #[.int .i64 0, .int .i64 0, .string E0] 28 (0, 0)) := by rw [hW0]; exact heap_alloc_new w _
  go_enter Tryd.func65, Tryd.ntmps65
  go_wp2_with fail
  rw [← hW0]
  refine (null_any W0).mono ?_
  rintro e w1 ⟨rfl, b1⟩
  go_wp2_with fail
  refine (bool_any false w1).mono ?_
  rintro e w2 ⟨rfl, b2⟩
  replace b1 := btrans b1 b2
  go_wp2_with fail
  refine (bool_any true w2).mono ?_
  rintro e w3 ⟨rfl, b3⟩
  replace b1 := btrans b1 b3
  rw [show oneOf false = 0 from rfl, show oneOf true = 1 from rfl]
  clear b2 b3 hW0
  go_wp2_with fail
  have hGr := (hG.keep b0).keep b1
  have i0 := ix0
  have i1 := ix1
  have i2 := ix2
  refine wp_loop_rounds 4 ?_
  rw [rounds_succ]
  go_wp2_with fail
  have ba0 : Below w3.heap.size w3 (w3.alloc (.cells #[.int .i64 0, .int .i64 0, .string E0] 28)) := (Below.refl _ _).alloc (Nat.le_refl _) _
  refine (v0.out _ (hGr.keep ba0)).mono ?_
  rintro e u0 ⟨rfl, bb0⟩
  replace bb0 := bnew bb0
  replace hGr := hGr.keep bb0
  replace b1 := btrans b1 bb0
  go_wp2_with fail
  rw [rounds_succ]
  go_wp2_with fail
  have ba1 : Below u0.heap.size u0 (u0.alloc (.cells #[.int .i64 1, .int .i64 0, .string E0] 28)) := (Below.refl _ _).alloc (Nat.le_refl _) _
  refine (v1.out _ (hGr.keep ba1)).mono ?_
  rintro e u1 ⟨rfl, bb1⟩
  replace bb1 := bnew bb1
  replace hGr := hGr.keep bb1
  replace b1 := btrans b1 bb1
  go_wp2_with fail
  rw [rounds_succ]
  go_wp2_with fail
  have ba2 : Below u1.heap.size u1 (u1.alloc (.cells #[.int .i64 1, .int .i64 1, .string E0] 28)) := (Below.refl _ _).alloc (Nat.le_refl _) _
  refine (v2.out _ (hGr.keep ba2)).mono ?_
  rintro e u2 ⟨rfl, bb2⟩
  have e0 := cell_keep (w := u1.alloc (.cells #[.int .i64 1, .int .i64 1, .string E0] 28)) (a := ⟨u1.heap.size, 0, none⟩) (by simp [go_sem]; rfl) bb2
  have e1 := cell_keep (w := u1.alloc (.cells #[.int .i64 1, .int .i64 1, .string E0] 28)) (a := ⟨u1.heap.size, 1, none⟩) (by simp [go_sem]; rfl) bb2
  have e2 := cell_keep (w := u1.alloc (.cells #[.int .i64 1, .int .i64 1, .string E0] 28)) (a := ⟨u1.heap.size, 2, none⟩) (by simp [go_sem]; rfl) bb2
  replace b1 := btrans b1 (bnew bb2)
  rw [hs0] at b1
  have hA9 : u2.heap[w.heap.size]? = some (.cells #[.int .i64 0, .int .i64 0, .string E0] 28 (0, 0)) := (b1.block w.heap.size (by omega)).trans hA
  have q0 : u2.cell? ⟨w.heap.size, 0, none⟩ = some (.int .i64 0) := by rw [cell_of_row u2 w.heap.size 0 _ _ _ hA9]; rfl
  have q1 : u2.cell? ⟨w.heap.size, 1, none⟩ = some (.int .i64 0) := by rw [cell_of_row u2 w.heap.size 1 _ _ _ hA9]; rfl
  have q2 : u2.cell? ⟨w.heap.size, 2, none⟩ = some (.string E0) := by rw [cell_of_row u2 w.heap.size 2 _ _ _ hA9]; rfl
  have f0 := frozen_of_row u2 w.heap.size 0 _ _ hA9
  have f1 := frozen_of_row u2 w.heap.size 1 _ _ hA9
  have f2 := frozen_of_row u2 w.heap.size 2 _ _ hA9
  have bw : Below w.heap.size w u2 := b0.trans (b1.mono (by omega))
  clear hA hA9 b0 b1 hGr ba2 bb2
  go_wp2_with fail
  exact bodyPost_ret (v := .tuple #[V 1 1 E0, .bool true]) (by simp [results, Tryd.results65, go_sem, q0, q1, q2]) rfl ⟨rfl, bset3 bw (Nat.le_refl _) _ _ _⟩

end Go.Proofs.YtcnbbmgclphfdaaDoor
