/- Contract of how the program reads a row that was told; the chapter's example. -/
import Derived.Test.YtcnbbmgclphfdaaDoorRpValues
import Derived.Test.YtcnbbmgclphfdaaDoorSameRow
import Derived.Test.YtcnbbmgclphfdaaDoorRpWhy2
namespace Go.Proofs.YtcnbbmgclphfdaaDoor
open Go.RowKit Go.Sort

theorem tooLong_no (w : World) (t n : Int) (z : ByteArray) (h : RightE (t, n, z)) : Calls Tryd.prog 43 #[V t n z] w fun e w' => e = .returned (.bool false) ∧ Below w.heap.size w w' := by
  have k := right_any t n z (w.alloc (.cells #[.int .i64 t, .int .i64 n, .string z] 28))
  rw [show rightE t n z = 0 from h] at k
  go_enter Tryd.func43, Tryd.ntmps43
  go_wp2_with fail
  refine k.mono ?_
  rintro e w1 ⟨rfl, b1⟩
  go_wp2_with fail
  go_ret
  exact ⟨rfl, bnew b1⟩

set_option maxHeartbeats 1000000 in
theorem indexFunc_no (w : World) (v : Value) (l : List Ent) (hl : Lies w v l) (hr : ∀ e ∈ l, RightE e) (hn : l.length ≤ 1000) :
    Calls Tryd.prog 54 #[v, .func (.func 43) #[] #[]] w fun e w' => e = .returned (.int .i64 (-1)) ∧ Below w.heap.size w w' := by
  obtain ⟨ao, cap, rfl, hc⟩ := hl
  go_enter Tryd.func54, Tryd.ntmps54
  go_wp2_with fail
  go_loopw [8] (fun i wr => ∃ j : Nat, j ≤ l.length ∧ i = .int .i64 j ∧ Below w.heap.size w wr) (fun i _ => l.length - (intOf i).toNat)
  case atStart => exact ⟨0, Nat.zero_le _, rfl, Below.refl _ _⟩
  case round =>
    obtain ⟨j, hj, rfl, hbel⟩ := hrel
    by_cases h : j < l.length
    · obtain ⟨b, off, rfl, h1, h2, h3⟩ := hc j h
      replace h1 := cell_keep h1 hbel
      replace h2 := cell_keep h2 hbel
      replace h3 := cell_keep h3 hbel
      have hre := hr l[j] (List.getElem_mem h)
      generalize l[j] = E at *
      obtain ⟨t, n, s⟩ := E
      dsimp only at h1 h2 h3
      have kt := tooLong_no wr t n s hre
      clear hc
      go_wp2_with fail
      refine kt.mono ?_
      rintro e w2 ⟨rfl, b2⟩
      go_wp2_with fail
      go_roundw
      case rel => exact ⟨j + 1, by omega, by go_num, btrans hbel b2⟩
      case measure => simp [intOf]; omega
    · have hjl : j = l.length := by omega
      subst hjl
      go_wp2_with fail
      go_ret
      exact ⟨rfl, hbel⟩

theorem containsFunc_no (w : World) (v : Value) (l : List Ent) (hl : Lies w v l) (hr : ∀ e ∈ l, RightE e) (hn : l.length ≤ 1000) :
    Calls Tryd.prog 42 #[v, .func (.func 43) #[] #[]] w fun e w' => e = .returned (.bool false) ∧ Below w.heap.size w w' := by
  have k := indexFunc_no w v l hl hr hn
  go_enter Tryd.func42, Tryd.ntmps42
  go_wp2_with fail
  refine k.mono ?_
  rintro e w1 ⟨rfl, b1⟩
  go_wp2_with fail
  go_ret
  exact ⟨rfl, b1⟩

set_option maxHeartbeats 1000000 in
theorem read_any (w : World) (hG : Glob w) (l : List Ent) (hr : ∀ e ∈ l, RightE e) (hf : Fair l) (hn : l.length ≤ 40) (hx : ∀ e ∈ l, ∀ c ∈ e.2.2.data.toList, escB c = true → HexOK c) :
    Calls Tryd.prog 22 #[.string (rowB l)] w fun e w' => ∃ v, e = .returned (.tuple #[v, .int .i64 0]) ∧ OwnV w' w.heap.size v l ∧ Below w.heap.size w w' := by
  have kv : Calls Tryd.prog 41 #[.string (rowB l)] w fun e w' => ∃ v, e = .returned (.tuple #[v, .bool true]) ∧ OwnV w' w.heap.size v l ∧ Below w.heap.size w w' := by
    by_cases hl : l = []
    · subst hl
      have he : rowB [] = E0 := rfl
      rw [he]
      go_enter Tryd.func41, Tryd.ntmps41
      go_wp2_with fail
      go_ret2
      exact ⟨_, rfl, OwnV.nil _ _, Below.refl _ _⟩
    · exact valuesOf_any w hG l hl hr hf (by omega) hx
  go_enter Tryd.func22, Tryd.ntmps22
  go_wp2_with fail
  refine kv.mono ?_
  rintro e w1 ⟨v, rfl, ho, b1⟩
  obtain ⟨za, zc, rfl⟩ := ownV_shape ho
  have kc := containsFunc_no w1 _ l ho.lies hr (by omega)
  go_wp2_with fail
  refine kc.mono ?_
  rintro e w2 ⟨rfl, b2⟩
  go_wp2_with fail
  go_ret2
  exact ⟨_, rfl, ho.keep b2, btrans b1 b2⟩

end Go.Proofs.YtcnbbmgclphfdaaDoor
