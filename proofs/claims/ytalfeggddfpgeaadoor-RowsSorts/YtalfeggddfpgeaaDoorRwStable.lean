/- The library's stable sort of at most 40 places. -/
import Derived.Test.YtalfeggddfpgeaaDoorRwSym3
import Derived.Test.YtalfeggddfpgeaaDoorRwSort
namespace Go.Proofs.YtalfeggddfpgeaaDoor
open Go.RowKit Go.Sort

theorem nodup_range' (n : Nat) : (List.range n).Nodup := List.nodup_range
/-- Behind the two sorts by insertion. -/
theorem mrg_blocks {cf : Nat → Nat → Int} {n : Nat} {P1 P2 : List Nat} (h20 : 20 < n) (p1 : P1.Perm (List.range n)) (o1 : SameOut P1 (List.range n) 0 20) (s1 : SortedOn cf P1 0 20) (p2 : P2.Perm P1) (o2 : SameOut P2 P1 20 n) (s2 : SortedOn cf P2 20 n) : Mrg cf P2 0 20 n := by
  have hl1 : P1.length = n := by rw [p1.length_eq]; simp
  have hl2 : P2.length = n := by rw [p2.length_eq, hl1]
  refine ⟨by omega, h20, by omega, sorted_out s1 o2 (.inl (Nat.le_refl _)), s2, fun k l h1 h2 h3 h4 => ?_⟩
  rw [o2 k (by omega)]
  obtain ⟨k', _, k2, e1⟩ := same_in p1 (nodup_range' n) (by simp; omega) o1 h1 h2
  obtain ⟨l', l1, l2, e2⟩ := same_in p2 (p1.symm.nodup (nodup_range' n)) (by omega) o2 h3 h4
  rw [e1, e2, nth_range (by omega), o1 l' (by omega), nth_range (by omega)]
  omega

set_option maxRecDepth 100000 in
set_option maxHeartbeats 8000000 in
theorem stable_any (n : Nat) (h20 : 20 ≤ n) (h40 : n ≤ 40) (w0 w : World) (base g cap K : Nat) (cb : Array Value) (cf : Nat → Nat → Int) (hd : DataAt w base g cap n (List.range n)) (hg : w0.grownBy w (some g)) (hcmp : CmpOK w0 g n K cb cf) (hK : ∀ a w, (callFunc K a).run Tryd.prog w = .ok (.enter K a) w) (hc : Pre cf) :
    Calls Tryd.prog 26 #[.slice (some ⟨g, 0, none⟩) n cap, .int .i64 n, .func (.func K) #[] cb] w fun e w' => e = .returned (.tuple #[]) ∧ ∃ P', DataAt w' base g cap n P' ∧ P'.Perm (List.range n) ∧ SortedOn cf P' 0 n ∧ w0.grownBy w' (some g) := by
  have INS1 : Aside _ := ins_any w0 w base g cap n K 0 20 cb cf (List.range n) hd hg hcmp hK hc (by omega) (by omega) h20 (fun k l _ h2 h3 => by rw [nth_range (by omega), nth_range (by omega)]; exact h2) (fun x hx => List.mem_range.1 hx)
  have INS2 : Aside (∀ (w1 : World) (P1 : List Nat), DataAt w1 base g cap n P1 → w0.grownBy w1 (some g) → P1.Perm (List.range n) → SameOut P1 (List.range n) 0 20 → Calls Tryd.prog 35 #[.slice (some ⟨g, 0, none⟩) n cap, .int .i64 (20 : Nat), .int .i64 n, .func (.func K) #[] cb] w1 fun e w' => e = .returned (.tuple #[]) ∧ ∃ P', DataAt w' base g cap n P' ∧ P'.Perm P1 ∧ SameOut P' P1 20 n ∧ SortedOn cf P' 20 n ∧ w0.grownBy w' (some g)) := fun w1 P1 d1 g1 p1 o1 =>
    ins_any w0 w1 base g cap n K 20 n cb cf P1 d1 g1 hcmp hK hc (by omega) h20 (Nat.le_refl _) (fun k l h1 h2 h3 => by rw [o1 k (by omega), o1 l (by omega), nth_range (by omega), nth_range h3]; exact h2) (fun x hx => List.mem_range.1 (p1.mem_iff.1 hx))
  have SYM : Aside (∀ (w2 : World) (P2 : List Nat), DataAt w2 base g cap n P2 → w0.grownBy w2 (some g) → Mrg cf P2 0 20 n → P2.Perm (List.range n) → Calls Tryd.prog 36 #[.slice (some ⟨g, 0, none⟩) n cap, .int .i64 (0 : Nat), .int .i64 (20 : Nat), .int .i64 n, .func (.func K) #[] cb] w2 fun e w' => e = .returned (.tuple #[]) ∧ ∃ P', DataAt w' base g cap n P' ∧ P'.Perm P2 ∧ SameOut P' P2 0 n ∧ SortedOn cf P' 0 n ∧ w0.grownBy w' (some g)) := fun w2 P2 d2 g2 M p2 =>
    symMerge_any w0 base g cap n K cb cf hcmp hK hc (by omega) n w2 P2 0 20 n (by omega) d2 g2 M (p2.symm.nodup (nodup_range' n)) (fun x hx => List.mem_range.1 (p2.mem_iff.1 hx))
  have EMPTY : Aside (∀ (w1 : World) (P1 : List Nat), DataAt w1 base g cap n P1 → w0.grownBy w1 (some g) → P1.Perm (List.range n) → Calls Tryd.prog 35 #[.slice (some ⟨g, 0, none⟩) n cap, .int .i64 n, .int .i64 n, .func (.func K) #[] cb] w1 fun e w' => e = .returned (.tuple #[]) ∧ ∃ P', DataAt w' base g cap n P' ∧ P'.Perm P1 ∧ SameOut P' P1 n n ∧ SortedOn cf P' n n ∧ w0.grownBy w' (some g)) := fun w1 P1 d1 g1 p1 =>
    ins_any w0 w1 base g cap n K n n cb cf P1 d1 g1 hcmp hK hc (by omega) (Nat.le_refl _) (Nat.le_refl _) (fun k l h1 h2 h3 => by omega) (fun x hx => List.mem_range.1 (p1.mem_iff.1 hx))
  clear hcmp hd
  by_cases c40 : n = 40
  · subst c40
    go_enter Tryd.func26, Tryd.ntmps26
    go_wp2_with fail
    refine wp_loop_rounds 3 ?_
    rw [rounds_succ]
    go_wp2_with fail
    refine Calls.mono INS1.out ?_
    rintro e w1 ⟨rfl, P1, d1, p1, o1, s1, g1⟩
    go_wp2_with fail
    rw [rounds_succ]
    go_wp2_with fail
    refine (INS2.out w1 P1 d1 g1 p1 o1).mono ?_
    rintro e w2 ⟨rfl, P2, d2, p2, o2, s2, g2⟩
    have M2 : Aside _ := mrg_blocks (n := 40) (by omega) p1 o1 s1 p2 o2 s2
    have PP : Aside (P2.Perm (List.range 40)) := p2.trans p1
    clear d1 p1 o1 s1 g1 p2 o2 s2
    go_wp2_with fail
    rw [rounds_succ]
    go_wp2_with fail
    refine (EMPTY.out w2 P2 d2 g2 PP.out).mono ?_
    rintro e w3 ⟨rfl, P3, d3, p3, o3, _, g3⟩
    have e3 : P3 = P2 := by
      apply List.ext_getElem (by rw [p3.length_eq])
      intro k h1 h2
      have := o3 k (by omega)
      rwa [nth_get h1, nth_get h2] at this
    subst e3
    clear d2 g2 p3 o3
    go_wp2_with fail
    refine wp_loop_rounds 2 ?_
    rw [rounds_succ]
    go_wp2_with fail
    refine wp_loop_rounds 2 ?_
    rw [rounds_succ]
    go_wp2_with fail
    refine (SYM.out w3 P3 d3 g3 M2.out PP.out).mono ?_
    rintro e w4 ⟨rfl, P4, d4, p4, o4, s4, g4⟩
    have PF := p4.trans PP.out
    clear d3 g3 p4 o4
    go_wp2_with fail
    rw [rounds_succ]
    go_wp2_with fail
    rw [rounds_succ]
    go_wp2_with fail
    go_end0
    exact ⟨rfl, P4, d4, PF, s4, g4⟩
  · have k1 : decide ((20 : Int) ≤ (n : Int)) = true := by simp; omega
    have k2 : decide ((40 : Int) ≤ (n : Int)) = false := by simp; omega
    have k3 : decide ((40 : Int) < (n : Int)) = false := by simp; omega
    have k1' : (20 : Int) ≤ (n : Int) := by omega
    have k2' : ¬ (40 : Int) ≤ (n : Int) := by omega
    have k3' : ¬ (40 : Int) < (n : Int) := by omega
    have kn1 : 20 ≤ n := h20
    have kn2 : ¬ 40 ≤ n := by omega
    have kn3 : ¬ 40 < n := by omega
    go_enter Tryd.func26, Tryd.ntmps26
    go_wp2_with fail
    refine wp_loop_rounds 2 ?_
    rw [rounds_succ]
    go_wp2_with fail
    refine Calls.mono INS1.out ?_
    rintro e w1 ⟨rfl, P1, d1, p1, o1, s1, g1⟩
    go_wp2_with fail
    rw [rounds_succ]
    go_wp2_with fail
    refine (INS2.out w1 P1 d1 g1 p1 o1).mono ?_
    rintro e w2 ⟨rfl, P2, d2, p2, o2, s2, g2⟩
    by_cases c20 : 20 < n
    · have M2 : Aside _ := mrg_blocks c20 p1 o1 s1 p2 o2 s2
      have PP : Aside (P2.Perm (List.range n)) := p2.trans p1
      have q1 : decide ((20 : Int) < (n : Int)) = true := by simp; omega
      have q1' : (20 : Int) < (n : Int) := by omega
      clear d1 p1 o1 s1 g1 p2 o2 s2
      go_wp2_with fail
      refine wp_loop_rounds 2 ?_
      rw [rounds_succ]
      go_wp2_with fail
      refine wp_loop_rounds 1 ?_
      rw [rounds_succ]
      go_wp2_with fail
      refine (SYM.out w2 P2 d2 g2 M2.out PP.out).mono ?_
      rintro e w4 ⟨rfl, P4, d4, p4, o4, s4, g4⟩
      have PF := p4.trans PP.out
      clear d2 g2 p4 o4
      go_wp2_with fail
      rw [rounds_succ]
      go_wp2_with fail
      go_end0
      exact ⟨rfl, P4, d4, PF, s4, g4⟩
    · have q1 : decide ((20 : Int) < (n : Int)) = false := by simp; omega
      have q1' : ¬ (20 : Int) < (n : Int) := by omega
      have hn20 : n = 20 := by omega
      have SF : Aside (SortedOn cf P2 0 n) := by
        have := sorted_out s1 o2 (.inl (Nat.le_refl _))
        rw [hn20]; exact this
      have PF := p2.trans p1
      clear d1 p1 o1 s1 g1 p2 o2 s2 hn20
      go_wp2_with fail
      refine wp_loop_rounds 1 ?_
      rw [rounds_succ]
      go_wp2_with fail
      go_end0
      exact ⟨rfl, P2, d2, PF, SF.out, g2⟩

theorem sortOK (n : Nat) (hn : n ≤ 40) : SortOK n := by
  by_cases c : n < 20
  · exact sortOK_small n c
  · intro w0 w base g cap K cb cf hd hg hcmp hK hc
    have hst := stable_any n (by omega) hn w0 w base g cap K cb cf hd hg hcmp hK hc
    clear hd hcmp
    go_enter Tryd.func16, Tryd.ntmps16
    go_wp2_with fail
    refine hst.mono ?_
    rintro e w1 ⟨rfl, h⟩
    go_wp2_with fail
    go_end0
    exact ⟨rfl, h⟩

end Go.Proofs.YtalfeggddfpgeaaDoor
