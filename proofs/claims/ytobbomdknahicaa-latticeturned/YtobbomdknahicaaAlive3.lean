/- The chapter's example: what diamond lays, and that alive is true. -/
import Derived.Test.YtobbomdknahicaaLat
namespace Go.Proofs.Ytobbomdknahicaa
open Go.RowKit Go.Sort

/-- The names of the example. -/
def exL : List ByteArray := [⟨#[108, 111, 119]⟩, ⟨#[97]⟩, ⟨#[98]⟩, ⟨#[104, 105, 103, 104]⟩]
/-- Its edges. -/
def exE : List (ByteArray × ByteArray) := [(⟨#[108, 111, 119]⟩, ⟨#[97]⟩), (⟨#[108, 111, 119]⟩, ⟨#[98]⟩), (⟨#[97]⟩, ⟨#[104, 105, 103, 104]⟩), (⟨#[98]⟩, ⟨#[104, 105, 103, 104]⟩)]
theorem ex_s : ∀ s ∈ exL, s.size ≤ 1000 := by decide +kernel
theorem ex_e : ∀ e ∈ exE, e.1.size ≤ 1000 ∧ e.2.size ≤ 1000 := by decide +kernel
theorem ex_err : latErr exL exE = 0 := by decide +kernel
theorem ex_err3 : latErr (exL.take 3) (exE.take 2) = 12 := by decide +kernel
theorem ex_join : joinI (leL exL exE) exL.length 1 2 = 3 := by decide +kernel
theorem ex_meet : meetI (leL exL exE) exL.length 1 2 = 0 := by decide +kernel
theorem ex_leq : leL exL exE 0 3 = true := by decide +kernel
theorem ex_not : leL exL exE 1 2 = false := by decide +kernel

theorem diamond_any (w : World) : Calls Try.prog 30 #[] w fun e w' => ∃ b b', e = .returned (.tuple #[.slice (some ⟨b, 0, none⟩) 4 4, .slice (some ⟨b', 0, none⟩) 4 4]) ∧
    LiesS w' (.slice (some ⟨b, 0, none⟩) 4 4) exL ∧ LiesP w' (.slice (some ⟨b', 0, none⟩) 4 4) exE ∧ Below w.heap.size w w' := by
  go_enter Try.func30, Try.ntmps30
  go_wp2
  go_ret2
  refine ⟨_, _, rfl, ⟨_, _, rfl, ⟨nofun, Nat.le_refl _⟩, ?_⟩, ⟨_, _, rfl, ⟨nofun, Nat.le_refl _⟩, ?_⟩, ((Below.refl _ _).alloc (Nat.le_refl _) _).alloc (by simp) _⟩
  · intro i hi
    refine ⟨_, 0, rfl, ?_⟩
    have : i = 0 ∨ i = 1 ∨ i = 2 ∨ i = 3 := by simp [exL] at hi; omega
    rcases this with rfl | rfl | rfl | rfl <;> simp [go_sem, exL]
  · intro i hi
    refine ⟨_, 0, rfl, ?_⟩
    have : i = 0 ∨ i = 1 ∨ i = 2 ∨ i = 3 := by simp [exE] at hi; omega
    rcases this with rfl | rfl | rfl | rfl <;> simp [go_sem, exE]

set_option maxHeartbeats 2000000 in
theorem alive_any (w : World) : Calls Try.prog 10 #[] w fun e w' => e = .returned (.bool true) ∧ Below w.heap.size w w' := by
  go_enter Try.func10, Try.ntmps10
  go_wp2_with fail
  refine (diamond_any _).mono ?_
  rintro e w1 ⟨b, b', rfl, hL, hE, b1⟩
  go_wp2_with fail
  refine (new_any _ _ _ exL exE hL hE (by decide) (by decide) ex_s ex_e).mono ?_
  rintro e w2 ⟨p, rfl, b2, hlat, _⟩
  rw [ex_err]
  replace hlat := hlat ex_err
  have hL2 := hL.keep b2
  have hE2 := hE.keep b2
  replace b2 := btrans b1 b2
  clear hL hE b1
  have hL3 : LiesS w2 (.slice (some ⟨b, 0, none⟩) 3 4) (exL.take 3) := LiesS.take (L := exL) hL2 (by decide) (by decide)
  have hE3 : LiesP w2 (.slice (some ⟨b', 0, none⟩) 2 4) (exE.take 2) := LiesP.take (E := exE) hE2 (by decide) (by decide)
  have hn : ∀ d os, Calls Try.prog 11 #[.slice (some ⟨b, 0, none⟩) 3 4, .slice (some ⟨b', 0, none⟩) 2 4] (grow (redrawn w2 d) os) fun e w' => e = .returned (.tuple #[.pointer none, .int .i64 12]) ∧ Below (grow (redrawn w2 d) os).heap.size (grow (redrawn w2 d) os) w' := fun d os =>
    (new_any _ _ _ (exL.take 3) (exE.take 2) (hL3.keep (below_regrown _ _ _)) (hE3.keep (below_regrown _ _ _)) (by decide) (by decide) (fun s hs => ex_s s (List.mem_of_mem_take hs)) (fun e he => ex_e e (List.mem_of_mem_take he))).mono fun e w' ⟨p, h1, h2, _, h3⟩ => by
      rw [ex_err3] at h1 h3
      rw [h3 (by decide)] at h1
      exact ⟨h1, h2⟩
  clear hL2 hE2 hL3 hE3
  obtain ⟨q, rfl⟩ := hlat.ptr
  have k1 := fun wq (g : Below w2.heap.size w2 wq) => join_any wq _ exL exE (hlat.keep g) 1 2
  have k2 := fun wq (g : Below w2.heap.size w2 wq) => meet_any wq _ exL exE (hlat.keep g) 1 2
  have k3 := fun wq (g : Below w2.heap.size w2 wq) => leq_any wq _ exL exE (hlat.keep g) 0 3
  have k4 := fun wq (g : Below w2.heap.size w2 wq) => leq_any wq _ exL exE (hlat.keep g) 1 2
  rw [ex_join] at k1
  rw [ex_meet] at k2
  rw [ex_leq] at k3
  rw [ex_not] at k4
  clear hlat
  go_wp2_with fail
  refine wp_region_quiet_below (by kernel_rfl) (by kernel_rfl) ?_
  repeat (first | go_big_quiet_step (exact Calls.regrown_of (hn _ _)) | quiet_step (exact Calls.regrown_of (hn _ _)))
  refine wpQuiet_nil ?_
  rintro _ ⟨⟨dq, osq⟩, rfl⟩
  have hb := below_regrown w2 dq osq
  generalize grow (redrawn w2 dq) osq = w3 at hb ⊢
  clear hn
  go_wp2_with fail
  refine (k1 _ hb).mono ?_
  rintro e w4 ⟨rfl, b4⟩
  replace b4 := btrans hb b4
  go_wp2_with fail
  refine (k2 _ b4).mono ?_
  rintro e w5 ⟨rfl, b5⟩
  replace b5 := btrans b4 b5
  go_wp2_with fail
  refine (k3 _ b5).mono ?_
  rintro e w6 ⟨rfl, b6⟩
  replace b6 := btrans b5 b6
  go_wp2_with fail
  refine (k4 _ b6).mono ?_
  rintro e w7 ⟨rfl, b7⟩
  go_wp2_with fail
  go_ret
  exact ⟨rfl, btrans b2 (btrans b6 b7)⟩

end Go.Proofs.Ytobbomdknahicaa
