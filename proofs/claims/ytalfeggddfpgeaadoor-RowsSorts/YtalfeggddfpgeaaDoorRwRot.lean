/- The library's swapRange and rotate, of places. -/
import Derived.Test.YtalfeggddfpgeaaDoorRwIns2
namespace Go.Proofs.YtalfeggddfpgeaaDoor
open Go.RowKit Go.Sort

/-- Two ranges of n places exchanged. -/
def swR (f : Nat → Nat) (a b n k : Nat) : Nat := if a ≤ k ∧ k < a + n then f (b + (k - a)) else if b ≤ k ∧ k < b + n then f (a + (k - b)) else f k
/-- What stands from m up to b goes ahead of what stands from a up to m. -/
def rotR (f : Nat → Nat) (a m b k : Nat) : Nat := if a ≤ k ∧ k < a + (b - m) then f (m + (k - a)) else if a + (b - m) ≤ k ∧ k < b then f (a + (k - (a + (b - m)))) else f k
theorem rot_up {f : Nat → Nat} {i j m : Nat} (hj : 0 < j) (hij : j < i) (him : i ≤ m) (k : Nat) : rotR f (m - i) m (m + j) k = rotR (swR f (m - i) m j) (m - (i - j)) m (m + j) k := by
  unfold rotR swR
  repeat' split
  all_goals first | (exfalso; omega) | rfl | (congr 1 <;> omega)
theorem rot_down {f : Nat → Nat} {i j m : Nat} (hi : 0 < i) (hij : i < j) (him : i ≤ m) (k : Nat) : rotR f (m - i) m (m + j) k = rotR (swR f (m - i) (m + j - i) i) (m - i) m (m + (j - i)) k := by
  unfold rotR swR
  repeat' split
  all_goals first | (exfalso; omega) | rfl | (congr 1 <;> omega)
theorem rot_end {f : Nat → Nat} {i m : Nat} (hi : 0 < i) (him : i ≤ m) (k : Nat) : rotR f (m - i) m (m + i) k = swR f (m - i) m i k := by
  unfold rotR swR
  repeat' split
  all_goals first | (exfalso; omega) | rfl | (congr 1 <;> omega)
theorem rot_congr {f g : Nat → Nat} {a m b : Nat} (h : ∀ k, f k = g k) (k : Nat) : rotR f a m b k = rotR g a m b k := by
  unfold rotR; simp only [h]

set_option maxHeartbeats 4000000 in
theorem swapRange_any (w : World) (base g cap n a b c : Nat) (F : Value) (P : List Nat) (hd : DataAt w base g cap n P) (hn : n ≤ 1000) (hab : a + c ≤ b) (hb : b + c ≤ n) :
    Calls Tryd.prog 47 #[.slice (some ⟨g, 0, none⟩) n cap, .int .i64 a, .int .i64 b, .int .i64 c, F] w fun e w' => e = .returned (.tuple #[]) ∧ ∃ P', DataAt w' base g cap n P' ∧ P'.Perm P ∧ (∀ k, nth P' k = swR (nth P) a b c k) ∧ w.grownBy w' (some g) := by
  go_enter Tryd.func47, Tryd.ntmps47
  go_wp2_with fail
  go_loopw [10] (fun vi wr => ∃ (i : Nat) (Q : List Nat), i ≤ c ∧ vi = .int .i64 i ∧ DataAt wr base g cap n Q ∧ Q.Perm P ∧ (∀ k, nth Q k = swR (nth P) a b i k) ∧ w.grownBy wr (some g)) (fun vi _ => c - (intOf vi).toNat)
  case atStart => exact ⟨0, P, Nat.zero_le _, rfl, hd, List.Perm.refl _, fun k => by unfold swR; rw [if_neg (by omega), if_neg (by omega)], grownBy_refl _ _⟩
  case round =>
    obtain ⟨i, Q, hi, rfl, hdq, hperm, hsw, hgr⟩ := hrel
    clear hd
    have hQl := hdq.1
    by_cases hic : i < c
    · have hit : decide ((i : Int) < (c : Int)) = true := by simp; omega
      obtain ⟨c1, f1⟩ := hdq.cell (show a + i < n by omega)
      obtain ⟨c2, f2⟩ := hdq.cell (show b + i < n by omega)
      have HSW : Aside (DataAt ((wr.setCell ⟨g, a + i, none⟩ (.int .i64 (nth Q (b + i) : Int))).setCell ⟨g, b + i, none⟩ (.int .i64 (nth Q (a + i) : Int))) base g cap n (swp Q (a + i) (b + i))) := hdq.swap (a + i) (b + i)
      have HPM : Aside ((swp Q (a + i) (b + i)).Perm P) := (swp_perm (by omega) (by omega)).trans hperm
      have HNT : Aside (∀ k, nth (swp Q (a + i) (b + i)) k = swR (nth P) a b (i + 1) k) := fun k => by
        rw [nth_swp (by omega) (by omega)]
        simp only [hsw]
        unfold swR
        repeat' split
        all_goals first | (exfalso; omega) | rfl | (congr 1 <;> omega)
      have z1 : (0 : Int) ≤ (a : Int) + (i : Int) := by omega
      have z2 : (a : Int) + (i : Int) < (n : Int) := by omega
      have z3 : (0 : Int) ≤ (b : Int) + (i : Int) := by omega
      have z4 : (b : Int) + (i : Int) < (n : Int) := by omega
      have z5 : ((a : Int) + (i : Int)).toNat = a + i := by omega
      have z6 : ((b : Int) + (i : Int)).toNat = b + i := by omega
      have z7 : IntKind.i64.wrap ((a : Int) + (i : Int)) = (a : Int) + (i : Int) := by rw [IntKind.wrap_i64]; omega
      have z8 : IntKind.i64.wrap ((b : Int) + (i : Int)) = (b : Int) + (i : Int) := by rw [IntKind.wrap_i64]; omega
      have ng : ¬ a + i = b + i := by omega
      have WA : Aside _ := And.intro hgr hdq
      clear hsw hdq hgr hperm
      generalize nth Q (a + i) = x at *
      generalize nth Q (b + i) = y at *
      go_wp2_with fail
      go_region
      all_goals
        go_wp2_with fail
        go_roundw
        case rel => exact ⟨i + 1, swp Q (a + i) (b + i), by omega, by go_num, HSW.out, HPM.out, HNT.out, grownBy_drew (grownBy_set (grownBy_set WA.out.1))⟩
        case measure => simp [intOf]; omega
    · have hit : decide ((i : Int) < (c : Int)) = false := by simp; omega
      have hie : i = c := by omega
      subst hie
      go_wp2_with fail
      go_end0
      exact ⟨rfl, Q, hdq, hperm, hsw, hgr⟩

theorem grownBy_tr {a b c : World} {row : Option Nat} (h : a.grownBy b row) (k : b.grownBy c row) : a.grownBy c row := World.grownBy.trans h k

set_option maxHeartbeats 4000000 in
theorem rotate_any (w : World) (base g cap n a m b : Nat) (F : Value) (P : List Nat) (hF : ∃ K cb, F = .func (.func K) #[] cb) (hd : DataAt w base g cap n P) (hn : n ≤ 1000) (ham : a < m) (hmb : m < b) (hb : b ≤ n) :
    Calls Tryd.prog 40 #[.slice (some ⟨g, 0, none⟩) n cap, .int .i64 a, .int .i64 m, .int .i64 b, F] w fun e w' => e = .returned (.tuple #[]) ∧ ∃ P', DataAt w' base g cap n P' ∧ P'.Perm P ∧ (∀ k, nth P' k = rotR (nth P) a m b k) ∧ w.grownBy w' (some g) := by
  obtain ⟨K, cb, rfl⟩ := hF
  have w1 : IntKind.i64.wrap ((m : Int) - (a : Int)) = ((m - a : Nat) : Int) := by rw [IntKind.wrap_i64]; omega
  have w2 : IntKind.i64.wrap ((b : Int) - (m : Int)) = ((b - m : Nat) : Int) := by rw [IntKind.wrap_i64]; omega
  have q1 : (m : Int) - (a : Int) = ((m - a : Nat) : Int) := by omega
  have q2 : (b : Int) - (m : Int) = ((b - m : Nat) : Int) := by omega
  go_enter Tryd.func40, Tryd.ntmps40
  go_wp2_with fail
  go_loopw [10, 11] (fun vi vj wr => ∃ (i j : Nat) (Q : List Nat), vi = .int .i64 i ∧ vj = .int .i64 j ∧ 0 < i ∧ 0 < j ∧ a ≤ m - i ∧ i ≤ m ∧ m + j ≤ b ∧ DataAt wr base g cap n Q ∧ Q.Perm P ∧ (∀ k, rotR (nth P) a m b k = rotR (nth Q) (m - i) m (m + j) k) ∧ w.grownBy wr (some g)) (fun vi vj _ => (intOf vi).toNat + (intOf vj).toNat)
  case atStart => exact ⟨m - a, b - m, P, by first | rfl | go_num, by first | rfl | go_num, by omega, by omega, by omega, by omega, by omega, hd, List.Perm.refl _, fun k => by rw [show m - (m - a) = a by omega, show m + (b - m) = b by omega], grownBy_refl _ _⟩
  case round =>
    obtain ⟨i, j, Q, rfl, rfl, hi, hj, hai, him, hjb, hdq, hperm, hrot, hgr⟩ := hrel
    have HROT : Aside _ := hrot
    clear hd hrot w1 w2 q1 q2
    rcases Nat.lt_trichotomy i j with h | h | h
    · have hne : ((i : Int) != (j : Int)) = true := by simp; omega
      have hgt : ¬ (j : Int) < (i : Int) := by omega
      have e1 : IntKind.i64.wrap ((m : Int) - (i : Int)) = ((m - i : Nat) : Int) := by rw [IntKind.wrap_i64]; omega
      have e2 : (m : Int) - (i : Int) = ((m - i : Nat) : Int) := by omega
      have e3 : IntKind.i64.wrap ((m : Int) + (j : Int) - (i : Int)) = ((m + j - i : Nat) : Int) := by rw [IntKind.wrap_i64]; omega
      have e4 : (m : Int) + (j : Int) - (i : Int) = ((m + j - i : Nat) : Int) := by omega
      have e5 : IntKind.i64.wrap ((j : Int) - (i : Int)) = ((j - i : Nat) : Int) := by rw [IntKind.wrap_i64]; omega
      have e6 : (j : Int) - (i : Int) = ((j - i : Nat) : Int) := by omega
      have e7 : IntKind.i64.wrap ((m : Int) + (j : Int)) = (m : Int) + (j : Int) := by rw [IntKind.wrap_i64]; omega
      go_wp2_with fail
      refine (swapRange_any _ base g cap n (m - i) (m + j - i) i _ Q hdq hn (by omega) (by omega)).mono ?_
      rintro e w3 ⟨rfl, P3, hd3, hp3, hs3, hg3⟩
      go_wp2_with fail
      go_roundw
      case rel => exact ⟨i, j - i, P3, rfl, by first | rfl | go_num, hi, by omega, hai, him, by omega, hd3, hp3.trans hperm, fun k => by rw [HROT.out k, rot_down hi h him]; exact rot_congr (fun k => (hs3 k).symm) k, grownBy_tr hgr hg3⟩
      case measure => simp [intOf]; omega
    · subst h
      have hne : ((i : Int) != (i : Int)) = false := by simp
      have e1 : IntKind.i64.wrap ((m : Int) - (i : Int)) = ((m - i : Nat) : Int) := by rw [IntKind.wrap_i64]; omega
      have e2 : (m : Int) - (i : Int) = ((m - i : Nat) : Int) := by omega
      go_wp2_with fail
      refine (swapRange_any _ base g cap n (m - i) m i _ Q hdq hn (by omega) (by omega)).mono ?_
      rintro e w3 ⟨rfl, P3, hd3, hp3, hs3, hg3⟩
      go_wp2_with fail
      go_end0
      exact ⟨rfl, P3, hd3, hp3.trans hperm, fun k => by rw [HROT.out k, rot_end hi him, hs3], grownBy_tr hgr hg3⟩
    · have hne : ((i : Int) != (j : Int)) = true := by simp; omega
      have hgt : (j : Int) < (i : Int) := by omega
      have e1 : IntKind.i64.wrap ((m : Int) - (i : Int)) = ((m - i : Nat) : Int) := by rw [IntKind.wrap_i64]; omega
      have e2 : (m : Int) - (i : Int) = ((m - i : Nat) : Int) := by omega
      have e5 : IntKind.i64.wrap ((i : Int) - (j : Int)) = ((i - j : Nat) : Int) := by rw [IntKind.wrap_i64]; omega
      have e6 : (i : Int) - (j : Int) = ((i - j : Nat) : Int) := by omega
      go_wp2_with fail
      refine (swapRange_any _ base g cap n (m - i) m j _ Q hdq hn (by omega) (by omega)).mono ?_
      rintro e w3 ⟨rfl, P3, hd3, hp3, hs3, hg3⟩
      go_wp2_with fail
      go_roundw
      case rel => exact ⟨i - j, j, P3, by first | rfl | go_num, rfl, by omega, hj, by omega, by omega, hjb, hd3, hp3.trans hperm, fun k => by rw [HROT.out k, rot_up hj h him]; exact rot_congr (fun k => (hs3 k).symm) k, grownBy_tr hgr hg3⟩
      case measure => simp [intOf]; omega

end Go.Proofs.YtalfeggddfpgeaaDoor
