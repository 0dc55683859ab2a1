/- The chapter's example, called by every statement of layer 5, holds. -/
import Derived.Test.YtppihaaipkmpcaaDoorTok
import Derived.Test.YtppihaaipkmpcaaDoorTokPL
import Derived.Test.YtppihaaipkmpcaaDoorTokPW
namespace Go.Proofs.YtppihaaipkmpcaaDoor
open Go.RowKit Go.Sort

def exL : List Tk := [(1, ⟨#[97]⟩, 0, 0), (4, ⟨#[60, 61]⟩, 0, 1), (2, ⟨#[49]⟩, 1, 3), (0, ⟨#[]⟩, 0, 4)]
theorem ex_scan : scanS ⟨#[97, 60, 61, 49]⟩ = (exL, 0, 0) := by decide +kernel
theorem ex_line : lineS ⟨#[97, 10, 98, 99]⟩ 3 = (2, 2) := by decide +kernel
theorem ex_word : wordB ⟨#[115, 101, 108, 101, 99, 116]⟩ = true := by decide +kernel

set_option maxHeartbeats 1000000 in
theorem alive5_any (w : World) : Calls Tryd.prog 6 #[] w fun e w' => e = .returned (.bool true) ∧ Below w.heap.size w w' := by
  have a1 := scan_any w ⟨#[97, 60, 61, 49]⟩ (by decide) (.inr (by decide))
  rw [ex_scan] at a1
  have a2 := fun w' => line_any w' ⟨#[97, 10, 98, 99]⟩ (by decide) 3
  rw [ex_line] at a2
  have a3 := fun w' => word_any w' ⟨#[115, 101, 108, 101, 99, 116]⟩ (by decide)
  rw [ex_word] at a3
  go_enter Tryd.func6, Tryd.ntmps6
  go_wp2_with fail
  refine a1.mono ?_
  rintro e w1 ⟨v, rfl, hl, b1⟩
  go_wp2_with fail
  refine (a2 w1).mono ?_
  rintro e w2 ⟨rfl, b2⟩
  replace hl := hl.keep b2
  replace b1 := btrans b1 b2
  have hx := OwnG.lies encT_len (OwnG.lit encT_len w2 exL (C := #[.int .i64 1, .string ⟨#[97]⟩, .int .i64 0, .int .i64 0, .int .i64 4, .string ⟨#[60, 61]⟩, .int .i64 0, .int .i64 1, .int .i64 2, .string ⟨#[49]⟩, .int .i64 1, .int .i64 3, .int .i64 0, .string ⟨#[]⟩, .int .i64 0, .int .i64 4]) (e := 34) rfl (Nat.le_refl _) rfl (by decide))
  have ha : Below w2.heap.size w2 (w2.alloc (.cells #[.int .i64 1, .string ⟨#[97]⟩, .int .i64 0, .int .i64 0, .int .i64 4, .string ⟨#[60, 61]⟩, .int .i64 0, .int .i64 1, .int .i64 2, .string ⟨#[49]⟩, .int .i64 1, .int .i64 3, .int .i64 0, .string ⟨#[]⟩, .int .i64 0, .int .i64 4] 34)) := (Below.refl _ _).alloc (Nat.le_refl _) _
  have sm := same_ref _ v _ exL exL (hl.keep ha) hx (by decide)
  rw [decide_eq_true rfl] at sm
  replace ha := btrans b1 ha
  go_wp2_with fail
  refine sm.mono ?_
  rintro e w3 ⟨rfl, b3⟩
  replace b3 := btrans ha b3
  go_wp2_with fail
  refine (a3 w3).mono ?_
  rintro e w4 ⟨rfl, b4⟩
  go_wp2_with fail
  go_ret
  exact ⟨rfl, btrans b3 b4⟩

end Go.Proofs.YtppihaaipkmpcaaDoor
