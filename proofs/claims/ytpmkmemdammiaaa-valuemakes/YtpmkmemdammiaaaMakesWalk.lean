/- The law ValueMakes, walked: for every bool, number, text and value it answers true; nothing that was there has turned. -/
import Derived.Test.YtpmkmemdammiaaaAlive
import Derived.Test.YtpmkmemdammiaaaRight
namespace Go.Proofs.Ytpmkmemdammiaaa
open Go.RowKit Go.Sort

set_option maxHeartbeats 2000000 in
theorem makes_law (b : Bool) (x : Int) (s0 : ByteArray) (t n : Int) (s : ByteArray) (_hx : inR x) (_hs0 : s0.size ≤ maxLen) (_ht : inR t) (_hn : inR n) (_hs : s.size ≤ maxLen) (w : World) :
    Calls Try.prog 3 #[.bool b, .int .i64 x, .string s0, V t n s] w fun e w' => e = .returned (.bool true) ∧ Below w.heap.size w w' := by
  clear _hx _hs0 _ht _hn _hs
  have hv := run_veq
  have vs : ∀ t n s, veq t n s t n s = true := fun t n s => by simp [veq]
  have c := (At.alloc w t n s).cells
  go_enter Try.func3, Try.ntmps3
  go_wp2_with fail
  refine wp_region_quiet_below (by kernel_rfl) (by kernel_rfl) ?_
  repeat (quiet_step (first | (go_at_call 7; exact Calls.regrown_of (null_any _)) | (go_at_call 8; exact Calls.regrown_of (bool_any _ _)) | (go_at_call 9; exact Calls.regrown_of (refBool_any _ _)) | (go_at_call 10; exact Calls.regrown_of (int_any _ _)) | (go_at_call 11; exact Calls.regrown_of (refInt_any _ _)) | (go_at_call 12; exact Calls.regrown_of (text_any _ _)) | (go_at_call 13; exact Calls.regrown_of (refText_any _ _)) | (go_at_call 14; exact Calls.regrown_of (right_any _ _ _ _)) | (go_at_call 15; exact Calls.regrown_of (refRight_any _ _ _ _)) | (go_at_call 16; exact Calls.regrown_of (true_any _ _ _ _)) | (go_at_call 17; exact Calls.regrown_of (alive_any _))))
  refine wpQuiet_nil ?_
  rintro _ ⟨⟨dq, osq⟩, rfl⟩
  have hb := below_regrown (w.alloc (.cells #[.int .i64 t, .int .i64 n, .string s] 23)) dq osq
  clear c hv vs
  generalize grow (redrawn (w.alloc (.cells #[.int .i64 t, .int .i64 n, .string s] 23)) dq) osq = w1 at hb ⊢
  go_wp2
  go_ret
  exact ⟨rfl, bnew hb⟩

end Go.Proofs.Ytpmkmemdammiaaa
