/- Contract of the program's Word. -/
import Derived.Test.YthogkmcahnkkoaaGreatDoorJ12
namespace Go.Proofs.YthogkmcahnkkoaaGreatDoor
open Go.RowKit Go.Sort
def Fh : List (List UInt8) := [[97, 108, 108], [97, 110, 100], [97, 115], [98, 101, 103, 105, 110], [98, 101, 103, 105, 110, 115], [98, 101, 116, 119, 101, 101, 110], [98, 121], [99, 97, 108, 108], [99, 97, 115, 101], [99, 97, 116, 99, 104], [99, 111, 109, 109, 105, 116], [100, 101, 108, 101, 116, 101], [100, 101, 115, 99], [100, 105, 115, 116, 105, 110, 99, 116], [101, 108, 115, 101], [101, 110, 100], [101, 120, 99, 101, 112, 116], [101, 120, 105, 115, 116, 115], [102, 111, 114], [102, 114, 111, 109], [103, 114, 111, 117, 112], [104, 97, 118, 105, 110, 103], [104, 105, 100, 101], [105, 102], [105, 110], [105, 110, 112, 117, 116], [105, 110, 115, 101, 114, 116], [105, 110, 116], [105, 110, 116, 111], [105, 110, 116, 101, 114, 115, 101, 99, 116], [105, 115], [106, 111, 105, 110], [107, 101, 121], [108, 101, 102, 116], [108, 101, 118, 101, 108], [108, 101, 118, 101, 108, 115], [108, 105, 109, 105, 116], [110, 111, 116], [110, 117, 108, 108], [111, 110], [111, 114], [111, 114, 100, 101, 114], [112, 114, 105, 110, 99, 105, 112, 97, 108], [112, 114, 105, 110, 116], [112, 114, 111, 99], [114, 97, 105, 115, 101], [114, 111, 108, 108, 98, 97, 99, 107], [114, 111, 119, 115], [115, 101, 108, 101, 99, 116], [115, 101, 116], [116, 97, 98, 108, 101], [116, 101, 120, 116], [116, 104, 101, 110], [116, 114, 117, 101], [116, 114, 121], [102, 97, 108, 115, 101], [98, 111, 111, 108], [117, 110, 105, 111, 110], [117, 112, 100, 97, 116, 101], [118, 97, 108, 117, 101, 115], [118, 97, 114], [118, 105, 115, 105, 98, 108, 101], [119, 104, 101, 110], [119, 104, 101, 114, 101], [119, 104, 105, 108, 101], [99, 104, 97, 110, 110, 101, 108], [115, 107, 105, 112]]
theorem Ht (s : ByteArray) : qg s = true ↔ s.toList ∈ Fh := by
 have e : Fh = U6.map (fun t => t.data.toList) := rfl
 unfold qg
 rw [List.any_eq_true, e, List.mem_map]
 constructor
 ·rintro ⟨t, ht, h⟩
  have h' : t = s := of_decide_eq_true h
  exact ⟨t, ht, by rw [h', ByteArray.toList_eq]⟩
 ·rintro ⟨t, ht, h⟩
  refine ⟨t, ht, decide_eq_true (toList_inj ?_)⟩
  rw [ByteArray.toList_eq]; exact h
set_option maxRecDepth 100000 in
set_option maxHeartbeats 8000000 in
theorem VL (w : World) (s : ByteArray) (L : List UInt8) (h : s.toList = L) (hL : L ∈ Fh) : Calls Tryz.prog 89 #[.string s] w fun e w' => e = .returned (.bool true) ∧ Below w.heap.size w w' := by
 simp only [Fh, List.mem_cons, List.not_mem_nil, or_false] at hL
 rcases hL with rfl | rfl | rfl | rfl | rfl | rfl | rfl | rfl | rfl | rfl | rfl | rfl | rfl | rfl | rfl | rfl | rfl | rfl | rfl | rfl | rfl | rfl | rfl | rfl | rfl | rfl | rfl | rfl | rfl | rfl | rfl | rfl | rfl | rfl | rfl | rfl | rfl | rfl | rfl | rfl | rfl | rfl | rfl | rfl | rfl | rfl | rfl | rfl | rfl | rfl | rfl | rfl | rfl | rfl | rfl | rfl | rfl | rfl | rfl | rfl | rfl | rfl | rfl | rfl | rfl | rfl | rfl
 all_goals
  go_enter Tryz.func89, Tryz.ntmps89
  go_wp2_with fail
  go_ret
  exact ⟨rfl, Below.refl _ _⟩
set_option maxRecDepth 100000 in
set_option maxHeartbeats 4000000 in
theorem Sm (w : World) (s : ByteArray) (h : ∀ L ∈ Fh, (s.toList == L) = false) : Calls Tryz.prog 89 #[.string s] w fun e w' => e = .returned (.bool false) ∧ Below w.heap.size w w' := by
 have q0 := h [97, 108, 108] (by decide)
 have q1 := h [97, 110, 100] (by decide)
 have q2 := h [97, 115] (by decide)
 have q3 := h [98, 101, 103, 105, 110] (by decide)
 have q4 := h [98, 101, 103, 105, 110, 115] (by decide)
 have q5 := h [98, 101, 116, 119, 101, 101, 110] (by decide)
 have q6 := h [98, 121] (by decide)
 have q7 := h [99, 97, 108, 108] (by decide)
 have q8 := h [99, 97, 115, 101] (by decide)
 have q9 := h [99, 97, 116, 99, 104] (by decide)
 have q10 := h [99, 111, 109, 109, 105, 116] (by decide)
 have q11 := h [100, 101, 108, 101, 116, 101] (by decide)
 have q12 := h [100, 101, 115, 99] (by decide)
 have q13 := h [100, 105, 115, 116, 105, 110, 99, 116] (by decide)
 have q14 := h [101, 108, 115, 101] (by decide)
 have q15 := h [101, 110, 100] (by decide)
 have q16 := h [101, 120, 99, 101, 112, 116] (by decide)
 have q17 := h [101, 120, 105, 115, 116, 115] (by decide)
 have q18 := h [102, 111, 114] (by decide)
 have q19 := h [102, 114, 111, 109] (by decide)
 have q20 := h [103, 114, 111, 117, 112] (by decide)
 have q21 := h [104, 97, 118, 105, 110, 103] (by decide)
 have q22 := h [104, 105, 100, 101] (by decide)
 have q23 := h [105, 102] (by decide)
 have q24 := h [105, 110] (by decide)
 have q25 := h [105, 110, 112, 117, 116] (by decide)
 have q26 := h [105, 110, 115, 101, 114, 116] (by decide)
 have q27 := h [105, 110, 116] (by decide)
 have q28 := h [105, 110, 116, 111] (by decide)
 have q29 := h [105, 110, 116, 101, 114, 115, 101, 99, 116] (by decide)
 have q30 := h [105, 115] (by decide)
 have q31 := h [106, 111, 105, 110] (by decide)
 have q32 := h [107, 101, 121] (by decide)
 have q33 := h [108, 101, 102, 116] (by decide)
 have q34 := h [108, 101, 118, 101, 108] (by decide)
 have q35 := h [108, 101, 118, 101, 108, 115] (by decide)
 have q36 := h [108, 105, 109, 105, 116] (by decide)
 have q37 := h [110, 111, 116] (by decide)
 have q38 := h [110, 117, 108, 108] (by decide)
 have q39 := h [111, 110] (by decide)
 have q40 := h [111, 114] (by decide)
 have q41 := h [111, 114, 100, 101, 114] (by decide)
 have q42 := h [112, 114, 105, 110, 99, 105, 112, 97, 108] (by decide)
 have q43 := h [112, 114, 105, 110, 116] (by decide)
 have q44 := h [112, 114, 111, 99] (by decide)
 have q45 := h [114, 97, 105, 115, 101] (by decide)
 have q46 := h [114, 111, 108, 108, 98, 97, 99, 107] (by decide)
 have q47 := h [114, 111, 119, 115] (by decide)
 have q48 := h [115, 101, 108, 101, 99, 116] (by decide)
 have q49 := h [115, 101, 116] (by decide)
 have q50 := h [116, 97, 98, 108, 101] (by decide)
 have q51 := h [116, 101, 120, 116] (by decide)
 have q52 := h [116, 104, 101, 110] (by decide)
 have q53 := h [116, 114, 117, 101] (by decide)
 have q54 := h [116, 114, 121] (by decide)
 have q55 := h [102, 97, 108, 115, 101] (by decide)
 have q56 := h [98, 111, 111, 108] (by decide)
 have q57 := h [117, 110, 105, 111, 110] (by decide)
 have q58 := h [117, 112, 100, 97, 116, 101] (by decide)
 have q59 := h [118, 97, 108, 117, 101, 115] (by decide)
 have q60 := h [118, 97, 114] (by decide)
 have q61 := h [118, 105, 115, 105, 98, 108, 101] (by decide)
 have q62 := h [119, 104, 101, 110] (by decide)
 have q63 := h [119, 104, 101, 114, 101] (by decide)
 have q64 := h [119, 104, 105, 108, 101] (by decide)
 have q65 := h [99, 104, 97, 110, 110, 101, 108] (by decide)
 have q66 := h [115, 107, 105, 112] (by decide)
 clear h
 go_enter Tryz.func89, Tryz.ntmps89
 go_wp2_with fail
 go_ret
 exact ⟨rfl, Below.refl _ _⟩
end Go.Proofs.YthogkmcahnkkoaaGreatDoor
