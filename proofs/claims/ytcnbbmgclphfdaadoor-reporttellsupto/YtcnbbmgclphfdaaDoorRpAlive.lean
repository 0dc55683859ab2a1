/- The chapter's example, called by every statement of layer 23, holds. -/
import Derived.Test.YtcnbbmgclphfdaaDoorRpRead
namespace Go.Proofs.YtcnbbmgclphfdaaDoor
open Go.RowKit Go.Sort

abbrev itsT : ByteArray := ⟨#[105, 116, 39, 115]⟩
def exE : List Ent := [(2, 1, E0), (0, 0, E0), (3, 0, itsT)]
theorem ex_row : rowB exE = ⟨#[49, 44, 32, 110, 117, 108, 108, 44, 32, 39, 105, 116, 39, 39, 115, 39]⟩ := by decide +kernel
theorem ex_why : whyS 5 = ⟨#[122, 101, 114, 111]⟩ := by decide +kernel
theorem ex_right : ∀ e ∈ exE, RightE e := by
  intro e he
  simp only [exE, List.mem_cons, List.not_mem_nil, or_false] at he
  rcases he with rfl | rfl | rfl
  all_goals
    unfold RightE
    decide +kernel
theorem ex_fair : Fair exE := by
  intro e he
  simp only [exE, List.mem_cons, List.not_mem_nil, or_false] at he
  rcases he with rfl | rfl | rfl
  all_goals exact ⟨by decide, by unfold inR; decide, by unfold inR; decide⟩
theorem ex_plain : ∀ e ∈ exE, ∀ c ∈ e.2.2.data.toList, escB c = true → HexOK c := by
  intro e he
  simp only [exE, List.mem_cons, List.not_mem_nil, or_false] at he
  rcases he with rfl | rfl | rfl
  · intro c hc; cases hc
  · intro c hc; cases hc
  · intro c hc hx
    exfalso
    revert hx
    have : c = 105 ∨ c = 116 ∨ c = 39 ∨ c = 115 := by simpa using hc
    rcases this with rfl | rfl | rfl | rfl <;> decide
theorem ex_same : sameB exE exE = true := by decide +kernel

set_option maxHeartbeats 1000000 in
set_option maxRecDepth 100000 in
theorem alive23_any (w : World) (hG : Glob w) : Calls Tryd.prog 7 #[] w fun e w' => e = .returned (.bool true) ∧ Below w.heap.size w w' := by
  go_enter Tryd.func7, Tryd.ntmps7
  go_wp2_with fail
  refine (refInt_any 1 w).mono ?_
  rintro e w1 ⟨rfl, b1⟩
  go_wp2_with fail
  refine (refText_any itsT w1).mono ?_
  rintro e w2 ⟨rfl, b2⟩
  replace b1 := btrans b1 b2
  clear b2
  go_wp2_with fail
  obtain ⟨W, hW⟩ : ∃ W, W = w2.alloc (.cells #[.int .i64 2, .int .i64 1, .string E0, .int .i64 0, .int .i64 0, .string ⟨#[]⟩, .int .i64 3, .int .i64 0, .string itsT] 28) := ⟨_, rfl⟩
  have bW : Below w2.heap.size w2 W := by rw [hW]; exact (Below.refl _ _).alloc (Nat.le_refl _) _
  have hl : Lies W (.slice (some ⟨w2.heap.size, 0, none⟩) 3 3) exE := by
    have hA : W.heap[w2.heap.size]? = some (.cells #[.int .i64 2, .int .i64 1, .string E0, .int .i64 0, .int .i64 0, .string ⟨#[]⟩, .int .i64 3, .int .i64 0, .string itsT] 28 (0, 0)) := by rw [hW]; exact heap_alloc_new w2 _
    refine ⟨_, 3, rfl, fun i hi => ⟨w2.heap.size, 0, rfl, ?_⟩⟩
    have h3 : i = 0 ∨ i = 1 ∨ i = 2 := by have : i < 3 := hi; omega
    rcases h3 with rfl | rfl | rfl
    all_goals refine ⟨?_, ?_, ?_⟩ <;> (rw [cell_of_row W w2.heap.size _ _ _ _ hA]; rfl)
  rw [← hW]
  clear hW
  replace b1 := btrans b1 bW
  have hGW := hG.keep b1
  have kr := read_any W hGW exE ex_right ex_fair (by decide) ex_plain
  rw [ex_row] at kr
  clear bW
  refine kr.mono ?_
  rintro e w3 ⟨v, rfl, ho, b3⟩
  replace hl := hl.keep b3
  replace hGW := hGW.keep b3
  replace b1 := btrans b1 b3
  have kw := row_any w3 hGW _ exE hl ex_fair (by decide)
  rw [ex_row] at kw
  clear kr b3
  go_wp2_with fail
  refine kw.mono ?_
  rintro e w4 ⟨rfl, b4⟩
  replace hl := hl.keep b4
  replace ho := ho.keep b4
  replace hGW := hGW.keep b4
  replace b1 := btrans b1 b4
  have ks := same_any w4 v _ exE exE ho.lies hl (by decide)
  rw [ex_same] at ks
  clear kw b4
  go_wp2_with fail
  refine ks.mono ?_
  rintro e w5 ⟨rfl, b5⟩
  replace hGW := hGW.keep b5
  replace b1 := btrans b1 b5
  have ky := why_any w5 hGW 5 (by decide) (by decide)
  rw [ex_why] at ky
  clear ks b5
  go_wp2_with fail
  refine ky.mono ?_
  rintro e w6 ⟨rfl, b6⟩
  go_wp2_with fail
  go_ret
  exact ⟨rfl, btrans b1 b6⟩

end Go.Proofs.YtcnbbmgclphfdaaDoor
