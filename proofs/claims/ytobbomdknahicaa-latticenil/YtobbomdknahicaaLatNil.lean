/- The walk of LatticeNil. -/
import Derived.Test.YtobbomdknahicaaAlive3
import Derived.Test.YtobbomdknahicaaFew3
import Derived.Test.YtobbomdknahicaaRefNew
namespace Go.Proofs.Ytobbomdknahicaa
open Go.RowKit Go.Sort

set_option maxHeartbeats 2000000 in
theorem latNil_walk {Q R : Prop} (s : ByteArray) (a b : Int) (hs : s.size ≤ maxLen) (_ : Q) (_ : R) (w : World) :
    Calls Try.prog 7 #[.string s, .int .i64 a, .int .i64 b] w fun e w' => e = .returned (.bool true) ∧ Below w.heap.size w w' := by
  go_enter Try.func7, Try.ntmps7
  go_wp2_with fail
  refine (find_nil _ s hs).mono ?_
  rintro e y1 ⟨rfl, c1⟩
  go_wp2_with fail
  refine (levels_nil _).mono ?_
  rintro e y2 ⟨q2, r2, rfl, c2⟩
  replace c2 := btrans c1 c2
  go_wp2_with fail
  refine (above_nil _ a).mono ?_
  rintro e y3 ⟨q3, r3, rfl, c3⟩
  replace c3 := btrans c2 c3
  go_wp2_with fail
  refine (leq_nil _ a b).mono ?_
  rintro e y4 ⟨rfl, c4⟩
  replace c4 := btrans c3 c4
  go_wp2_with fail
  refine (join_nil _ a b).mono ?_
  rintro e y5 ⟨rfl, c5⟩
  replace c5 := btrans c4 c5
  go_wp2_with fail
  refine (meet_nil _ a b).mono ?_
  rintro e y6 ⟨rfl, c6⟩
  replace c6 := btrans c5 c6
  go_wp2_with fail
  refine (bottom_nil _).mono ?_
  rintro e y7 ⟨rfl, c7⟩
  replace c7 := btrans c6 c7
  go_wp2_with fail
  refine (top_nil _).mono ?_
  rintro e y8 ⟨rfl, c8⟩
  replace c8 := btrans c7 c8
  go_wp2_with fail
  refine (alive_any _).mono ?_
  rintro e y9 ⟨rfl, c9⟩
  replace c9 := btrans c8 c9
  go_wp2_with fail
  go_ret
  exact ⟨rfl, c9⟩

end Go.Proofs.Ytobbomdknahicaa
