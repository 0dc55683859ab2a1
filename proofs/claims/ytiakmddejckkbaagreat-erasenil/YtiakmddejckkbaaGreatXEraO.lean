/- Of what was told nothing is seen where there is no catalog. -/
import Derived.Test.YtiakmddejckkbaaGreatXEraN
import Derived.Test.YtiakmddejckkbaaGreatCore
namespace Go.Proofs.YtiakmddejckkbaaGreat
open Go.RowKit Go.Sort

/-- What was told lies in memory: four cells each. -/
def OutsIn (w : World) (ao : Option Addr) (n : Nat) : Prop := ∀ i, i < n → ∃ (b off : Nat) (c t k : Int) (s : ByteArray), ao = some ⟨b, off, none⟩ ∧ w.cell? ⟨b, off + i * 4, none⟩ = some (.int .i64 c) ∧ w.cell? ⟨b, off + i * 4 + 1, none⟩ = some (.int .i64 t) ∧ w.cell? ⟨b, off + i * 4 + 2, none⟩ = some (.int .i64 k) ∧ w.cell? ⟨b, off + i * 4 + 3, none⟩ = some (.string s)

set_option maxHeartbeats 800000 in
set_option maxRecDepth 100000 in
theorem outs_nil (l : Int) (ao : Option Addr) (n cap : Nat) (w : World) (hn : n ≤ 1000000) (hc : OutsIn w ao n) : Calls Tryz.prog 31 #[.pointer none, .slice ao n cap, .int .i64 l] w fun e w' => e = .returned (.slice none 0 0) ∧ Below w.heap.size w w' := by
  go_enter Tryz.func31, Tryz.ntmps31
  go_wp2_with fail
  refine (sight_nil l w).mono ?_
  rintro e w1 ⟨f, rfl, b1⟩
  go_wp2_with fail
  refine (channels_nil w1).mono ?_
  rintro e w2 ⟨rfl, b2⟩
  replace b2 := btrans b1 b2
  clear b1
  go_wp2_with fail
  go_loopw [9, 20] (fun o i wr => ∃ j : Nat, j ≤ n ∧ o = .slice none 0 0 ∧ i = .int .i64 j ∧ Below w.heap.size w wr) (fun _ i _ => n - (intOf i).toNat)
  case atStart => exact ⟨0, Nat.zero_le _, rfl, rfl, b2⟩
  case round =>
    clear b2
    obtain ⟨j, hj, rfl, rfl, hbel⟩ := hrel
    by_cases h : j < n
    · obtain ⟨b, off, c, t, k, s, rfl, h0, h1, h2, h3⟩ := hc j h
      replace h0 := cell_keep h0 hbel
      replace h1 := cell_keep h1 hbel
      replace h2 := cell_keep h2 hbel
      replace h3 := cell_keep h3 hbel
      clear hc
      by_cases hcz : 0 ≤ c
      · have hlt : ¬ c < 0 := by omega
        go_wp2_with fail
        go_roundw
        case rel => exact ⟨j + 1, by omega, rfl, by go_num, hbel.alloc hbel.size _⟩
        case measure => simp [intOf]; omega
      · have hlt : c < 0 := by omega
        go_wp2_with fail
        go_roundw
        case rel => exact ⟨j + 1, by omega, rfl, by go_num, hbel.alloc hbel.size _⟩
        case measure => simp [intOf]; omega
    · have hjl : j = n := by omega
      subst hjl
      clear hc
      go_wp2_with fail
      go_ret
      exact ⟨rfl, hbel⟩

theorem OutsIn.keep {w w' : World} {ao : Option Addr} {n : Nat} (h : OutsIn w ao n) (k : Below w.heap.size w w') : OutsIn w' ao n := fun i hi => by
  obtain ⟨b, off, c, t, m, s, h0, h1, h2, h3, h4⟩ := h i hi
  exact ⟨b, off, c, t, m, s, h0, cell_keep h1 k, cell_keep h2 k, cell_keep h3 k, cell_keep h4 k⟩
set_option maxHeartbeats 800000 in
set_option maxRecDepth 100000 in
theorem eraseNil_any (l : Int) (ao : Option Addr) (n cap : Nat) {w0 : World} (hc : OutsIn w0 ao n) : Calls Tryz.prog 5 #[.int .i64 l, .slice ao n cap] w0 fun e w' => e = .returned (.bool true) ∧ Below w0.heap.size w0 w' := by
  by_cases h60 : (60 : Int) < n
  · clear hc
    go_enter Tryz.func5, Tryz.ntmps5
    go_wp2_with fail
    refine (alive_any w0).mono ?_
    rintro e w1 ⟨rfl, b1⟩
    go_wp2_with fail
    go_ret
    exact ⟨rfl, b1⟩
  · have hs := show_nil l w0
    go_enter Tryz.func5, Tryz.ntmps5
    go_wp2_with fail
    refine hs.mono ?_
    rintro e w1 ⟨rfl, b1⟩
    go_wp2_with fail
    refine (same_nil l w1).mono ?_
    rintro e w2 ⟨rfl, b2⟩
    replace b2 := btrans b1 b2
    go_wp2_with fail
    refine (mix_nil l w2).mono ?_
    rintro e w3 ⟨rfl, b3⟩
    replace b3 := btrans b2 b3
    go_wp2_with fail
    refine (outs_nil l ao n cap w3 (by omega) (hc.keep b3)).mono ?_
    rintro e w4 ⟨rfl, b4⟩
    replace b4 := btrans b3 b4
    go_wp2_with fail
    refine (alive_any w4).mono ?_
    rintro e w5 ⟨rfl, b5⟩
    go_wp2_with fail
    go_ret
    exact ⟨rfl, btrans b4 b5⟩

end Go.Proofs.YtiakmddejckkbaaGreat
