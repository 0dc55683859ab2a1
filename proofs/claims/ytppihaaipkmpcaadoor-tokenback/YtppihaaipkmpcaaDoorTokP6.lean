/- Contract of the program's take. -/
import Derived.Test.YtppihaaipkmpcaaDoorTokP5
namespace Go.Proofs.YtppihaaipkmpcaaDoor
open Go.RowKit Go.Sort

theorem take_nil (w : World) : Calls Tryd.prog 20 #[.string ⟨#[]⟩] w fun e w' => e = .returned (.tuple #[T4 0 ⟨#[]⟩ 0 0, .int .i64 0, .int .i64 (-1)]) ∧ Below w.heap.size w w' := by
  go_enter Tryd.func20, Tryd.ntmps20
  go_wp2_with fail
  exact bodyPost_ret (v := .tuple #[T4 0 ⟨#[]⟩ 0 0, .int .i64 0, .int .i64 (-1)]) (by simp [results, Tryd.results20, go_sem]) rfl ⟨rfl, (Below.refl _ _).alloc (Nat.le_refl _) _⟩
theorem bytes_ne {s : ByteArray} (h0 : 0 < s.size) : (s.toList == ([] : List UInt8)) = false := by
  rw [beq_eq_false_iff_ne]
  intro h
  rw [empty_of h] at h0
  exact absurd h0 (by decide)

set_option maxRecDepth 100000 in
set_option maxHeartbeats 4000000 in
theorem take_any (w : World) (s : ByteArray) (h0 : 0 < s.size) (hm : HasMax w ∨ s[0].toNat ≠ 39) (hs : s.size ≤ 1000000) :
    Calls Tryd.prog 20 #[.string s] w fun e w' => e = .returned (takeV (oneL s.data.toList)) ∧ Below w.heap.size w w' := by
  have hl := letter_any (w.alloc (.cells #[.int .i64 0, .string ⟨#[]⟩, .int .i64 0, .int .i64 0] 34)) s[0]
  have hd := digit_any (w.alloc (.cells #[.int .i64 0, .string ⟨#[]⟩, .int .i64 0, .int .i64 0] 34)) s[0]
  have hne := bytes_ne h0
  have i0 : (0 : Int) < (s.size : Int) := by omega
  have HO : Hid (oneL s.data.toList = oneC s[0] (s.data.toList.drop 1)) := by
    show oneL _ = _
    conv => lhs; rw [byte_head s h0]
    rfl
  have hW : Below w.heap.size w (w.alloc (.cells #[.int .i64 0, .string ⟨#[]⟩, .int .i64 0, .int .i64 0] 34)) := (Below.refl _ _).alloc (Nat.le_refl _) _
  cases hL : letterB s[0]
  · rw [hL] at hl
    cases hD : digitB s[0]
    · rw [hD] at hd
      by_cases h39 : s[0].toNat = 39
      · have q : ((s[0].toNat : Int) == 39) = true := by rw [h39]; rfl
        have a := takeText_any (w.alloc (.cells #[.int .i64 0, .string ⟨#[]⟩, .int .i64 0, .int .i64 0] 34)) ((hm.resolve_right (fun h => h h39)).keep hW) s h0 h39 hs
        have HR : Hid (oneL s.data.toList = quoteL s.data.toList) := by
          show oneL _ = _
          rw [HO.out]
          unfold oneC quoteL
          rw [hL, hD, ← byte_head s h0]
          simp only [h39, Bool.false_eq_true, if_false, if_true]
          generalize textP s.data.toList = z
          rcases z with ⟨b, n⟩ | k <;> rfl
        clear h39 hL hD hm
        rw [← HR.out] at a
        generalize oneL s.data.toList = R at a
        clear HO HR
        match R, a with
        | .inl (kind, tx, n, len), a =>
          simp only [takeV] at a ⊢
          go_enter Tryd.func20, Tryd.ntmps20
          go_wp2_with fail
          refine hl.mono ?_
          rintro e w1 ⟨rfl, hw1⟩
          subst w1
          go_wp2_with fail
          refine hd.mono ?_
          rintro e w1 ⟨rfl, hw1⟩
          subst w1
          go_wp2_with fail
          refine a.mono ?_
          rintro e w3 ⟨rfl, b3⟩
          have t0 : TokAt w3 w.heap.size 0 ⟨#[]⟩ 0 0 := TokAt.keep (heap_alloc_new w _) b3
          obtain ⟨c0, c1, c2, c3⟩ := t0.cells
          have hf := t0.frozen
          clear t0
          go_wp2_with fail
          exact bodyPost_ret (v := .tuple #[T4 kind ⟨tx.toArray⟩ (n : Int) 0, .int .i64 (len : Int), .int .i64 (-1)]) (by simp [results, Tryd.results20, go_sem, c0, c1, c2, c3]) rfl ⟨rfl, bset4 (btrans hW b3) (Nat.le_refl _) _ _ _ _⟩
        | .inr d, a =>
          simp only [takeV] at a ⊢
          go_enter Tryd.func20, Tryd.ntmps20
          go_wp2_with fail
          refine hl.mono ?_
          rintro e w1 ⟨rfl, hw1⟩
          subst w1
          go_wp2_with fail
          refine hd.mono ?_
          rintro e w1 ⟨rfl, hw1⟩
          subst w1
          go_wp2_with fail
          refine a.mono ?_
          rintro e w3 ⟨rfl, b3⟩
          have t0 : TokAt w3 w.heap.size 0 ⟨#[]⟩ 0 0 := TokAt.keep (heap_alloc_new w _) b3
          obtain ⟨c0, c1, c2, c3⟩ := t0.cells
          have hf := t0.frozen
          clear t0
          go_wp2_with fail
          exact bodyPost_ret (v := .tuple #[T4 0 ⟨#[]⟩ 0 0, .int .i64 0, .int .i64 (d : Int)]) (by simp [results, Tryd.results20, go_sem, c0, c1, c2, c3]) rfl ⟨rfl, bset4 (btrans hW b3) (Nat.le_refl _) _ _ _ _⟩
      · have q : ((s[0].toNat : Int) == 39) = false := by rw [beq_eq_false_iff_ne]; omega
        have a := takeMark_any (w.alloc (.cells #[.int .i64 0, .string ⟨#[]⟩, .int .i64 0, .int .i64 0] 34)) s h0 hs
        have HR : Hid (oneL s.data.toList = markL s.data.toList) := by
          show oneL _ = _
          rw [HO.out]
          unfold oneC markL
          rw [hL, hD, ← byte_head s h0]
          simp only [h39, Bool.false_eq_true, if_false]
          generalize marksL.find? (fun m => m.isPrefixOf s.data.toList) = z
          cases z <;> rfl
        clear h39 hL hD hm
        rw [← HR.out] at a
        generalize oneL s.data.toList = R at a
        clear HO HR
        match R, a with
        | .inl (kind, tx, n, len), a =>
          simp only [takeV] at a ⊢
          go_enter Tryd.func20, Tryd.ntmps20
          go_wp2_with fail
          refine hl.mono ?_
          rintro e w1 ⟨rfl, hw1⟩
          subst w1
          go_wp2_with fail
          refine hd.mono ?_
          rintro e w1 ⟨rfl, hw1⟩
          subst w1
          go_wp2_with fail
          refine a.mono ?_
          rintro e w3 ⟨rfl, b3⟩
          have t0 : TokAt w3 w.heap.size 0 ⟨#[]⟩ 0 0 := TokAt.keep (heap_alloc_new w _) b3
          obtain ⟨c0, c1, c2, c3⟩ := t0.cells
          have hf := t0.frozen
          clear t0
          go_wp2_with fail
          exact bodyPost_ret (v := .tuple #[T4 kind ⟨tx.toArray⟩ (n : Int) 0, .int .i64 (len : Int), .int .i64 (-1)]) (by simp [results, Tryd.results20, go_sem, c0, c1, c2, c3]) rfl ⟨rfl, bset4 (btrans hW b3) (Nat.le_refl _) _ _ _ _⟩
        | .inr d, a =>
          simp only [takeV] at a ⊢
          go_enter Tryd.func20, Tryd.ntmps20
          go_wp2_with fail
          refine hl.mono ?_
          rintro e w1 ⟨rfl, hw1⟩
          subst w1
          go_wp2_with fail
          refine hd.mono ?_
          rintro e w1 ⟨rfl, hw1⟩
          subst w1
          go_wp2_with fail
          refine a.mono ?_
          rintro e w3 ⟨rfl, b3⟩
          have t0 : TokAt w3 w.heap.size 0 ⟨#[]⟩ 0 0 := TokAt.keep (heap_alloc_new w _) b3
          obtain ⟨c0, c1, c2, c3⟩ := t0.cells
          have hf := t0.frozen
          clear t0
          go_wp2_with fail
          exact bodyPost_ret (v := .tuple #[T4 0 ⟨#[]⟩ 0 0, .int .i64 0, .int .i64 (d : Int)]) (by simp [results, Tryd.results20, go_sem, c0, c1, c2, c3]) rfl ⟨rfl, bset4 (btrans hW b3) (Nat.le_refl _) _ _ _ _⟩
    · rw [hD] at hd
      have a := takeInt_any (w.alloc (.cells #[.int .i64 0, .string ⟨#[]⟩, .int .i64 0, .int .i64 0] 34)) s hs
      have HR : Hid (oneL s.data.toList = if 18 < runN digitB s.data.toList then .inr 0 else .inl (2, s.data.toList.take (runN digitB s.data.toList), numL (s.data.toList.take (runN digitB s.data.toList)), runN digitB s.data.toList)) := by
        show oneL _ = _
        rw [HO.out]
        unfold oneC
        rw [hL, hD, ← byte_head s h0]
        simp
      clear hL hD hm
      rw [← HR.out] at a
      generalize oneL s.data.toList = R at a
      clear HO HR
      match R, a with
      | .inl (kind, tx, n, len), a =>
        simp only [takeV] at a ⊢
        go_enter Tryd.func20, Tryd.ntmps20
        go_wp2_with fail
        refine hl.mono ?_
        rintro e w1 ⟨rfl, hw1⟩
        subst w1
        go_wp2_with fail
        refine hd.mono ?_
        rintro e w1 ⟨rfl, hw1⟩
        subst w1
        go_wp2_with fail
        refine a.mono ?_
        rintro e w3 ⟨rfl, b3⟩
        have t0 : TokAt w3 w.heap.size 0 ⟨#[]⟩ 0 0 := TokAt.keep (heap_alloc_new w _) b3
        obtain ⟨c0, c1, c2, c3⟩ := t0.cells
        have hf := t0.frozen
        clear t0
        go_wp2_with fail
        exact bodyPost_ret (v := .tuple #[T4 kind ⟨tx.toArray⟩ (n : Int) 0, .int .i64 (len : Int), .int .i64 (-1)]) (by simp [results, Tryd.results20, go_sem, c0, c1, c2, c3]) rfl ⟨rfl, bset4 (btrans hW b3) (Nat.le_refl _) _ _ _ _⟩
      | .inr d, a =>
        simp only [takeV] at a ⊢
        go_enter Tryd.func20, Tryd.ntmps20
        go_wp2_with fail
        refine hl.mono ?_
        rintro e w1 ⟨rfl, hw1⟩
        subst w1
        go_wp2_with fail
        refine hd.mono ?_
        rintro e w1 ⟨rfl, hw1⟩
        subst w1
        go_wp2_with fail
        refine a.mono ?_
        rintro e w3 ⟨rfl, b3⟩
        have t0 : TokAt w3 w.heap.size 0 ⟨#[]⟩ 0 0 := TokAt.keep (heap_alloc_new w _) b3
        obtain ⟨c0, c1, c2, c3⟩ := t0.cells
        have hf := t0.frozen
        clear t0
        go_wp2_with fail
        exact bodyPost_ret (v := .tuple #[T4 0 ⟨#[]⟩ 0 0, .int .i64 0, .int .i64 (d : Int)]) (by simp [results, Tryd.results20, go_sem, c0, c1, c2, c3]) rfl ⟨rfl, bset4 (btrans hW b3) (Nat.le_refl _) _ _ _ _⟩
  · rw [hL] at hl
    have a := takeName_any (w.alloc (.cells #[.int .i64 0, .string ⟨#[]⟩, .int .i64 0, .int .i64 0] 34)) s hs
    have HR : Hid (oneL s.data.toList = if 30 < runN nameB s.data.toList then .inr 0 else .inl (1, s.data.toList.take (runN nameB s.data.toList), 0, runN nameB s.data.toList)) := by
      show oneL _ = _
      rw [HO.out]
      unfold oneC
      rw [hL, ← byte_head s h0]
      simp only [if_true]
      rfl
    clear hL hm
    rw [← HR.out] at a
    generalize oneL s.data.toList = R at a
    clear HO HR
    match R, a with
    | .inl (kind, tx, n, len), a =>
      simp only [takeV] at a ⊢
      go_enter Tryd.func20, Tryd.ntmps20
      go_wp2_with fail
      refine hl.mono ?_
      rintro e w1 ⟨rfl, hw1⟩
      subst w1
      go_wp2_with fail
      refine a.mono ?_
      rintro e w3 ⟨rfl, b3⟩
      have t0 : TokAt w3 w.heap.size 0 ⟨#[]⟩ 0 0 := TokAt.keep (heap_alloc_new w _) b3
      obtain ⟨c0, c1, c2, c3⟩ := t0.cells
      have hf := t0.frozen
      clear t0
      go_wp2_with fail
      exact bodyPost_ret (v := .tuple #[T4 kind ⟨tx.toArray⟩ (n : Int) 0, .int .i64 (len : Int), .int .i64 (-1)]) (by simp [results, Tryd.results20, go_sem, c0, c1, c2, c3]) rfl ⟨rfl, bset4 (btrans hW b3) (Nat.le_refl _) _ _ _ _⟩
    | .inr d, a =>
      simp only [takeV] at a ⊢
      go_enter Tryd.func20, Tryd.ntmps20
      go_wp2_with fail
      refine hl.mono ?_
      rintro e w1 ⟨rfl, hw1⟩
      subst w1
      go_wp2_with fail
      refine a.mono ?_
      rintro e w3 ⟨rfl, b3⟩
      have t0 : TokAt w3 w.heap.size 0 ⟨#[]⟩ 0 0 := TokAt.keep (heap_alloc_new w _) b3
      obtain ⟨c0, c1, c2, c3⟩ := t0.cells
      have hf := t0.frozen
      clear t0
      go_wp2_with fail
      exact bodyPost_ret (v := .tuple #[T4 0 ⟨#[]⟩ 0 0, .int .i64 0, .int .i64 (d : Int)]) (by simp [results, Tryd.results20, go_sem, c0, c1, c2, c3]) rfl ⟨rfl, bset4 (btrans hW b3) (Nat.le_refl _) _ _ _ _⟩

end Go.Proofs.YtppihaaipkmpcaaDoor
