/- Contract of how the program reads the value at the front. -/
import Derived.Test.YtcnbbmgclphfdaaDoorRpPlain
import Derived.Test.YtcnbbmgclphfdaaDoorRpText
import Derived.Lib.Index
import Derived.Laws.Tables
namespace Go.Proofs.YtcnbbmgclphfdaaDoor
open Go.RowKit Go.Sort

theorem index_word (l r : List UInt8) (h : ∀ c ∈ l, c.toNat ≠ 44) : Lib.index (l ++ 44 :: 32 :: r) [44, 32] = l.length := by
  induction l with
  | nil => simp [Lib.index, List.isPrefixOf]
  | cons c t ih =>
    have hc : ¬ (44 : UInt8) = c := fun e => h c (by simp) (by rw [← e]; rfl)
    rw [List.cons_append, Lib.index, if_neg (by simp [List.isPrefixOf, hc]), ih (fun x hx => h x (by simp [hx])), if_neg (by simp)]
    simp
theorem index_no (l : List UInt8) (h : ∀ c ∈ l, c.toNat ≠ 44) : Lib.index l [44, 32] = -1 := by
  induction l with
  | nil => rfl
  | cons c t ih =>
    have hc : ¬ (44 : UInt8) = c := fun e => h c (by simp) (by rw [← e]; rfl)
    rw [Lib.index, if_neg (by simp [List.isPrefixOf, hc]), ih (fun x hx => h x (by simp [hx])), if_pos (by simp)]

set_option maxHeartbeats 2000000 in
set_option maxRecDepth 100000 in
theorem take_text (w : World) (s : ByteArray) (t rest : List UInt8) (h : s.data.toList = 39 :: (spellsL t ++ 39 :: rest)) (hr : rest.head? ≠ some 39) (hsz : s.size ≤ 1000000) (hx : ∀ c ∈ t, escB c = true → HexOK c) :
    Calls Tryd.prog 52 #[.string s] w fun e w' => e = .returned (.tuple #[V 3 0 ⟨t.toArray⟩, .string ⟨rest.toArray⟩, .bool true]) ∧ Below w.heap.size w w' := by
  obtain ⟨W0, hW0⟩ : ∃ W0, W0 = w.alloc (.cells #[.int .i64 0, .int .i64 0, .string E0] 28) := ⟨_, rfl⟩
  have b0 : Below w.heap.size w W0 := by rw [hW0]; exact (Below.refl _ _).alloc (Nat.le_refl _) _
  have hs0 : W0.heap.size = w.heap.size + 1 := by rw [hW0]; simp
  have hA : W0.heap[w.heap.size]? = some (.cells #[.int .i64 0, .int .i64 0, .string E0] 28 (0, 0)) := by rw [hW0]; exact heap_alloc_new w _
  have h1 : 1 ≤ s.size := by rw [size_of_list h]; simp
  have kp := Tryd.strings_HasPrefix s ⟨#[39]⟩ W0
  rw [show (⟨#[39]⟩ : ByteArray).data.toList = [39] from rfl, h, show Lib.hasPrefix (39 :: (spellsL t ++ 39 :: rest)) [39] = true by simp [Lib.hasPrefix]] at kp
  have hx1 : (s.extract 1 s.size).data.toList = spellsL t ++ 39 :: rest := by rw [extract_from, h]; rfl
  have kt := takeText_any W0 (s.extract 1 s.size) t rest hx1 hr (by simp; omega) hx
  clear hx1 h
  go_enter Tryd.func52, Tryd.ntmps52
  go_wp2_with fail
  rw [← hW0]
  clear hW0
  refine kp.mono ?_
  rintro e w1 ⟨rfl, hw⟩
  subst hw
  go_wp2_with fail
  refine kt.mono ?_
  rintro e w2 ⟨rfl, b2⟩
  rw [hs0] at b2
  have hA9 : w2.heap[w.heap.size]? = some (.cells #[.int .i64 0, .int .i64 0, .string E0] 28 (0, 0)) := (b2.block w.heap.size (by omega)).trans hA
  have q0 : w2.cell? ⟨w.heap.size, 0, none⟩ = some (.int .i64 0) := by rw [cell_of_row w2 w.heap.size 0 _ _ _ hA9]; rfl
  have q1 : w2.cell? ⟨w.heap.size, 1, none⟩ = some (.int .i64 0) := by rw [cell_of_row w2 w.heap.size 1 _ _ _ hA9]; rfl
  have q2 : w2.cell? ⟨w.heap.size, 2, none⟩ = some (.string E0) := by rw [cell_of_row w2 w.heap.size 2 _ _ _ hA9]; rfl
  have f0 := frozen_of_row w2 w.heap.size 0 _ _ hA9
  have f1 := frozen_of_row w2 w.heap.size 1 _ _ hA9
  have f2 := frozen_of_row w2 w.heap.size 2 _ _ hA9
  have bw : Below w.heap.size w w2 := b0.trans (b2.mono (by omega))
  clear hA hA9 b0 b2 kt kp
  go_wp2_with fail
  exact bodyPost_ret (v := .tuple #[V 3 0 ⟨t.toArray⟩, .string ⟨rest.toArray⟩, .bool true]) (by simp [results, Tryd.results52, go_sem, q0, q1, q2]) rfl ⟨rfl, bset3 bw (Nat.le_refl _) _ _ _⟩

theorem set3_row {w : World} {b : Nat} {x0 x1 x2 : Value} {T : TypeId} (h : w.heap[b]? = some (.cells #[x0, x1, x2] T (0, 0))) (y0 y1 y2 : Value) :
    (((w.setCell ⟨b, 0, none⟩ y0).setCell ⟨b, 1, none⟩ y1).setCell ⟨b, 2, none⟩ y2).heap[b]? = some (.cells #[y0, y1, y2] T (0, 0)) := by
  have s1 := setCell_eq_setRow w b 0 _ _ _ y0 h
  have h1 : (w.setCell ⟨b, 0, none⟩ y0).heap[b]? = some (.cells #[y0, x1, x2] T (0, 0)) := by rw [s1]; exact setRow_heap w b _ _ T _ h
  have s2 := setCell_eq_setRow (w.setCell ⟨b, 0, none⟩ y0) b 1 _ _ _ y1 h1
  have h2 : ((w.setCell ⟨b, 0, none⟩ y0).setCell ⟨b, 1, none⟩ y1).heap[b]? = some (.cells #[y0, y1, x2] T (0, 0)) := by rw [s2]; exact setRow_heap _ b _ _ T _ h1
  have s3 := setCell_eq_setRow ((w.setCell ⟨b, 0, none⟩ y0).setCell ⟨b, 1, none⟩ y1) b 2 _ _ _ y2 h2
  rw [s3]; exact setRow_heap _ b _ _ T _ h2

set_option maxHeartbeats 2000000 in
set_option maxRecDepth 100000 in
theorem take_plain (w : World) (hG : Glob w) (s word : ByteArray) (t n : Int) (z : ByteArray) (rest : List UInt8) (kq : ∀ w0, Glob w0 → Calls Tryd.prog 65 #[.string word] w0 fun e w' => e = .returned (.tuple #[V t n z, .bool true]) ∧ Below w0.heap.size w0 w')
    (h : s.data.toList = word.data.toList ++ rest) (hw : ∀ c ∈ word.data.toList, c.toNat ≠ 44 ∧ c.toNat ≠ 39) (h0 : 0 < word.size) (hrest : rest = [] ∨ ∃ r, rest = 44 :: 32 :: r) (hsz : s.size ≤ 1000000) :
    Calls Tryd.prog 52 #[.string s] w fun e w' => e = .returned (.tuple #[V t n z, .string ⟨rest.toArray⟩, .bool true]) ∧ Below w.heap.size w w' := by
  obtain ⟨W0, hW0⟩ : ∃ W0, W0 = w.alloc (.cells #[.int .i64 0, .int .i64 0, .string E0] 28) := ⟨_, rfl⟩
  have b0 : Below w.heap.size w W0 := by rw [hW0]; exact (Below.refl _ _).alloc (Nat.le_refl _) _
  have hs0 : W0.heap.size = w.heap.size + 1 := by rw [hW0]; simp
  have hA : W0.heap[w.heap.size]? = some (.cells #[.int .i64 0, .int .i64 0, .string E0] 28 (0, 0)) := by rw [hW0]; exact heap_alloc_new w _
  have hG0 := hG.keep b0
  have kp := Tryd.strings_HasPrefix s ⟨#[39]⟩ W0
  rw [show (⟨#[39]⟩ : ByteArray).data.toList = [39] from rfl, show Lib.hasPrefix s.data.toList [39] = false by
    rw [h]
    cases hl : word.data.toList with
    | nil => rw [size_of_list hl] at h0; simp at h0
    | cons c l =>
      have := (hw c (by rw [hl]; simp)).2
      have hc : ¬ (39 : UInt8) = c := fun e => this (by rw [← e]; rfl)
      simp [Lib.hasPrefix, List.isPrefixOf, hc]] at kp
  obtain ⟨m, hm⟩ := hG0.2
  have ki := Tryd.strings_Index s ⟨#[44, 32]⟩ m W0 (by omega) hm
  have hwl : word.data.toList.length = word.size := by simp
  have hss : s.size = word.size + rest.length := by rw [size_of_list h]; simp
  have hx0 : s.extract 0 word.size = word := by
    refine toList_inj ?_
    rw [ByteArray.toList_eq, ByteArray.toList_eq]
    have : (s.extract 0 word.size).data.toList = (s.data.toList.drop 0).take word.size := by simp [ByteArray.extract, ByteArray.copySlice]
    rw [this, h, List.drop_zero, List.take_append_of_le_length (by omega), List.take_of_length_le (by omega)]
  have hx1 : s.extract word.size s.size = ⟨rest.toArray⟩ := by
    refine toList_inj ?_
    rw [ByteArray.toList_eq, ByteArray.toList_eq, extract_from, h, ← hwl, List.drop_left]
  have kq0 := kq W0 hG0
  rcases hrest with rfl | ⟨r, rfl⟩
  · rw [show (⟨#[44, 32]⟩ : ByteArray).data.toList = [44, 32] from rfl, h, List.append_nil, index_no _ (fun c hc => (hw c hc).1)] at ki
    have hsw : s = word := by
      refine toList_inj ?_
      rw [ByteArray.toList_eq, ByteArray.toList_eq, h, List.append_nil]
    subst hsw
    clear hwl hss h hw hm hG0 hG
    go_enter Tryd.func52, Tryd.ntmps52
    go_wp2_with fail
    rw [← hW0]
    clear hW0
    refine kp.mono ?_
    rintro e w1 ⟨rfl, hw⟩
    subst hw
    go_wp2_with fail
    refine ki.mono ?_
    rintro e w2 ⟨rfl, hw⟩
    subst hw
    go_wp2_with fail
    refine kq0.mono ?_
    rintro e w3 ⟨rfl, b2⟩
    rw [hs0] at b2
    have hA9 : w3.heap[w.heap.size]? = some (.cells #[.int .i64 0, .int .i64 0, .string E0] 28 (0, 0)) := (b2.block w.heap.size (by omega)).trans hA
    have q0 : w3.cell? ⟨w.heap.size, 0, none⟩ = some (.int .i64 0) := by rw [cell_of_row w3 w.heap.size 0 _ _ _ hA9]; rfl
    have q1 : w3.cell? ⟨w.heap.size, 1, none⟩ = some (.int .i64 0) := by rw [cell_of_row w3 w.heap.size 1 _ _ _ hA9]; rfl
    have q2 : w3.cell? ⟨w.heap.size, 2, none⟩ = some (.string E0) := by rw [cell_of_row w3 w.heap.size 2 _ _ _ hA9]; rfl
    have f0 := frozen_of_row w3 w.heap.size 0 _ _ hA9
    have f1 := frozen_of_row w3 w.heap.size 1 _ _ hA9
    have f2 := frozen_of_row w3 w.heap.size 2 _ _ hA9
    have bw : Below w.heap.size w w3 := b0.trans (b2.mono (by omega))
    have hA4 := set3_row hA9 (.int .i64 t) (.int .i64 n) (.string z)
    have bw4 := bset3 bw (Nat.le_refl _) (.int .i64 t) (.int .i64 n) (.string z)
    clear hA hA9 b0 b2 kq0 kp ki kq hs0 h0 bw
    go_wp2_with fail
    clear q0 q1 q2 f0 f1 f2
    generalize ((w3.setCell ⟨w.heap.size, 0, none⟩ (.int .i64 t)).setCell ⟨w.heap.size, 1, none⟩ (.int .i64 n)).setCell ⟨w.heap.size, 2, none⟩ (.string z) = W4 at hA4 bw4 ⊢
    have q0 : W4.cell? ⟨w.heap.size, 0, none⟩ = some (.int .i64 t) := by rw [cell_of_row W4 w.heap.size 0 _ _ _ hA4]; rfl
    have q1 : W4.cell? ⟨w.heap.size, 1, none⟩ = some (.int .i64 n) := by rw [cell_of_row W4 w.heap.size 1 _ _ _ hA4]; rfl
    have q2 : W4.cell? ⟨w.heap.size, 2, none⟩ = some (.string z) := by rw [cell_of_row W4 w.heap.size 2 _ _ _ hA4]; rfl
    have f0 := frozen_of_row W4 w.heap.size 0 _ _ hA4
    have f1 := frozen_of_row W4 w.heap.size 1 _ _ hA4
    have f2 := frozen_of_row W4 w.heap.size 2 _ _ hA4
    clear hA4
    go_region
    all_goals
      go_wp2_with fail
      exact bodyPost_ret (v := .tuple #[V t n z, .string E0, .bool true]) (by simp [results, Tryd.results52, go_sem, q0, q1, q2]; rfl) rfl ⟨rfl, bset3 (below_drew bw4) (Nat.le_refl _) _ _ _⟩
  · rw [show (⟨#[44, 32]⟩ : ByteArray).data.toList = [44, 32] from rfl, h, index_word _ r (fun c hc => (hw c hc).1), hwl] at ki
    have hle : word.size ≤ s.size := by omega
    clear hwl hss h hw hm hG0 hG
    go_enter Tryd.func52, Tryd.ntmps52
    go_wp2_with fail
    rw [← hW0]
    clear hW0
    refine kp.mono ?_
    rintro e w1 ⟨rfl, hw⟩
    subst hw
    go_wp2_with fail
    refine ki.mono ?_
    rintro e w2 ⟨rfl, hw⟩
    subst hw
    go_wp2_with fail
    refine kq0.mono ?_
    rintro e w3 ⟨rfl, b2⟩
    rw [hs0] at b2
    have hA9 : w3.heap[w.heap.size]? = some (.cells #[.int .i64 0, .int .i64 0, .string E0] 28 (0, 0)) := (b2.block w.heap.size (by omega)).trans hA
    have q0 : w3.cell? ⟨w.heap.size, 0, none⟩ = some (.int .i64 0) := by rw [cell_of_row w3 w.heap.size 0 _ _ _ hA9]; rfl
    have q1 : w3.cell? ⟨w.heap.size, 1, none⟩ = some (.int .i64 0) := by rw [cell_of_row w3 w.heap.size 1 _ _ _ hA9]; rfl
    have q2 : w3.cell? ⟨w.heap.size, 2, none⟩ = some (.string E0) := by rw [cell_of_row w3 w.heap.size 2 _ _ _ hA9]; rfl
    have f0 := frozen_of_row w3 w.heap.size 0 _ _ hA9
    have f1 := frozen_of_row w3 w.heap.size 1 _ _ hA9
    have f2 := frozen_of_row w3 w.heap.size 2 _ _ hA9
    have bw : Below w.heap.size w w3 := b0.trans (b2.mono (by omega))
    have hA4 := set3_row hA9 (.int .i64 t) (.int .i64 n) (.string z)
    have bw4 := bset3 bw (Nat.le_refl _) (.int .i64 t) (.int .i64 n) (.string z)
    clear hA hA9 b0 b2 kq0 kp ki kq hs0 h0 bw
    go_wp2_with fail
    clear q0 q1 q2 f0 f1 f2
    generalize ((w3.setCell ⟨w.heap.size, 0, none⟩ (.int .i64 t)).setCell ⟨w.heap.size, 1, none⟩ (.int .i64 n)).setCell ⟨w.heap.size, 2, none⟩ (.string z) = W4 at hA4 bw4 ⊢
    have q0 : W4.cell? ⟨w.heap.size, 0, none⟩ = some (.int .i64 t) := by rw [cell_of_row W4 w.heap.size 0 _ _ _ hA4]; rfl
    have q1 : W4.cell? ⟨w.heap.size, 1, none⟩ = some (.int .i64 n) := by rw [cell_of_row W4 w.heap.size 1 _ _ _ hA4]; rfl
    have q2 : W4.cell? ⟨w.heap.size, 2, none⟩ = some (.string z) := by rw [cell_of_row W4 w.heap.size 2 _ _ _ hA4]; rfl
    have f0 := frozen_of_row W4 w.heap.size 0 _ _ hA4
    have f1 := frozen_of_row W4 w.heap.size 1 _ _ hA4
    have f2 := frozen_of_row W4 w.heap.size 2 _ _ hA4
    clear hA4
    go_region
    all_goals
      go_wp2_with fail
      exact bodyPost_ret (v := .tuple #[V t n z, .string ⟨(44 :: 32 :: r).toArray⟩, .bool true]) (by simp [results, Tryd.results52, go_sem, q0, q1, q2]) rfl ⟨rfl, bset3 (below_drew bw4) (Nat.le_refl _) _ _ _⟩

end Go.Proofs.YtcnbbmgclphfdaaDoor
