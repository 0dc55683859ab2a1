/- The walk of ReportNotes. -/
import Derived.Test.YtcnbbmgclphfdaaDoorRpAlive
import Derived.Test.YtcnbbmgclphfdaaDoorRpNoteR
namespace Go.Proofs.YtcnbbmgclphfdaaDoor
open Go.RowKit Go.Sort

set_option maxHeartbeats 2000000 in
set_option maxRecDepth 100000 in
theorem notesW (w : World) (hG : Glob w) (s1 s2 : ByteArray) (p a n y : Int) (h0 : -9223372036854775808 ≤ n) (h1 : n ≤ 9223372036854775807) :
    Calls Tryd.prog 4 #[.string s1, .string s2, .agg #[.int .i64 p, .int .i64 a, .int .i64 n, .int .i64 y]] w fun e w' => e = .returned (.bool true) ∧ Below w.heap.size w w' := by
  obtain ⟨W, hW⟩ : ∃ W, W = w.alloc (.cells #[.int .i64 p, .int .i64 a, .int .i64 n, .int .i64 y] 40) := ⟨_, rfl⟩
  have bW : Below w.heap.size w W := by rw [hW]; exact (Below.refl _ _).alloc (Nat.le_refl _) _
  have hGW := hG.keep bW
  by_cases z1 : 3000 < s1.size
  · have al := alive23_any W hGW
    go_enter Tryd.func4, Tryd.ntmps4
    go_wp2_with fail
    rw [← hW]
    refine al.mono ?_
    rintro e w1 ⟨rfl, b1⟩
    go_wp2_with fail
    go_ret
    exact ⟨rfl, btrans bW b1⟩
  by_cases z2 : 3000 < s2.size
  · have al := alive23_any W hGW
    go_enter Tryd.func4, Tryd.ntmps4
    go_wp2_with fail
    rw [← hW]
    refine al.mono ?_
    rintro e w1 ⟨rfl, b1⟩
    go_wp2_with fail
    go_ret
    exact ⟨rfl, btrans bW b1⟩
  have c0 : ∀ d os, (grow (redrawn W d) os).cell? ⟨w.heap.size, 0, none⟩ = some (.int .i64 p) := fun d os => cell_regrown (by rw [hW]; simp [go_sem]) d os
  have c1 : ∀ d os, (grow (redrawn W d) os).cell? ⟨w.heap.size, 1, none⟩ = some (.int .i64 a) := fun d os => cell_regrown (by rw [hW]; simp [go_sem]) d os
  have c2 : ∀ d os, (grow (redrawn W d) os).cell? ⟨w.heap.size, 2, none⟩ = some (.int .i64 n) := fun d os => cell_regrown (by rw [hW]; simp [go_sem]) d os
  have c3 : ∀ d os, (grow (redrawn W d) os).cell? ⟨w.heap.size, 3, none⟩ = some (.int .i64 y) := fun d os => cell_regrown (by rw [hW]; simp [go_sem]) d os
  have k17 : Hid (∀ d os, Calls Tryd.prog 17 #[.string s1, .string s2, .agg #[.int .i64 p, .int .i64 a, .int .i64 n, .int .i64 y]] (grow (redrawn W d) os) fun e w' => e = .returned (.string (noteS s1 s2 p a n y)) ∧ Below (grow (redrawn W d) os).heap.size (grow (redrawn W d) os) w') := fun d os => note_any _ (hGW.keep (below_regrown ..)) s1 s2 (by omega) (by omega) p a n y h0 h1
  have k18 : Hid (∀ d os, Calls Tryd.prog 18 #[.string s1, .string s2, .agg #[.int .i64 p, .int .i64 a, .int .i64 n, .int .i64 y]] (grow (redrawn W d) os) fun e w' => e = .returned (.string (noteS s1 s2 p a n y)) ∧ Below (grow (redrawn W d) os).heap.size (grow (redrawn W d) os) w') := fun d os => note_ref _ s1 s2 (by omega) (by omega) p a n y h0 h1
  have k19 : Hid (∀ d os, Calls Tryd.prog 19 #[.int .i64 n] (grow (redrawn W d) os) fun e w' => e = .returned (.string (whyS n)) ∧ Below (grow (redrawn W d) os).heap.size (grow (redrawn W d) os) w') := fun d os => why_any _ (hGW.keep (below_regrown ..)) n h0 h1
  have k20 : Hid (∀ d os, Calls Tryd.prog 20 #[.int .i64 n] (grow (redrawn W d) os) fun e w' => e = .returned (.string (whyS n)) ∧ Below (grow (redrawn W d) os).heap.size (grow (redrawn W d) os) w') := fun d os => why_ref _ n h0 h1
  have k7 : Hid (∀ d os, Calls Tryd.prog 7 #[] (grow (redrawn W d) os) fun e w' => e = .returned (.bool true) ∧ Below (grow (redrawn W d) os).heap.size (grow (redrawn W d) os) w') := fun d os => alive23_any _ (hGW.keep (below_regrown ..))
  generalize noteS s1 s2 p a n y = NN at k17 k18
  generalize whyS n = YY at k19 k20
  clear hGW hG h0 h1
  go_enter Tryd.func4, Tryd.ntmps4
  go_wp2_with fail
  rw [← hW]
  clear hW z1 z2
  refine wp_region_quiet_below (by kernel_rfl) (by kernel_rfl) ?_
  repeat (first | go_big_quiet_step (first | (go_at_call 17; exact Calls.regrown_of (k17.out _ _)) | (go_at_call 18; exact Calls.regrown_of (k18.out _ _)) | (go_at_call 19; exact Calls.regrown_of (k19.out _ _)) | (go_at_call 20; exact Calls.regrown_of (k20.out _ _)) | (go_at_call 7; exact Calls.regrown_of (k7.out _ _))))
  refine wpQuiet_nil ?_
  rintro _ ⟨⟨dq, osq⟩, rfl⟩
  have hb := below_regrown W dq osq
  clear c0 c1 c2 c3 k17 k18 k19 k20 k7
  generalize grow (redrawn W dq) osq = w1 at hb ⊢
  go_wp2_with fail
  go_ret
  exact ⟨rfl, btrans bW hb⟩

theorem notes_walk (s1 s2 : ByteArray) (p a n y : Int) (_ : s1.size ≤ maxLen) (_ : s2.size ≤ maxLen) (_ : inR p) (_ : inR a) (hn : inR n) (_ : inR y) (w : World) (hG : Glob w) :
    Calls Tryd.prog 4 #[.string s1, .string s2, .agg #[.int .i64 p, .int .i64 a, .int .i64 n, .int .i64 y]] w fun e w' => e = .returned (.bool true) ∧ Below w.heap.size w w' := notesW w hG s1 s2 p a n y hn.1 hn.2

end Go.Proofs.YtcnbbmgclphfdaaDoor
