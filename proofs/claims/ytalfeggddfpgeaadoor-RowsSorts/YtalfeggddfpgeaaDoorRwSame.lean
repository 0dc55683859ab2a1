/- The document's Same of two lists of rows, and one. -/
import Derived.Test.YtalfeggddfpgeaaDoorRwRef
namespace Go.Proofs.YtalfeggddfpgeaaDoor
open Go.RowKit Go.Sort

theorem sameRR_take {L M : List Row} {k : Nat} (h1 : k < L.length) (h2 : k < M.length) : decide (L.take (k + 1) = M.take (k + 1)) = (decide (L.take k = M.take k) && sameB L[k] M[k]) := by
  rw [List.take_succ_eq_append_getElem h1, List.take_succ_eq_append_getElem h2, sameB_eq, ← Bool.decide_and]
  congr 1
  have hl : (L.take k).length = (M.take k).length := by simp; omega
  apply propext
  constructor
  · intro h
    have := List.append_inj h hl
    exact ⟨this.1, by simpa using this.2⟩
  · rintro ⟨e1, e2⟩; rw [e1, e2]

set_option maxHeartbeats 2000000 in
theorem sameRR_any (w : World) (v u : Value) (L M : List Row) (hl : LiesR w v L) (hm : LiesR w u M) (hll : L.length ≤ 1000) (hml : M.length ≤ 1000) (hs : Small L) :
    Calls Tryd.prog 7 #[v, u] w fun e w' => e = .returned (.bool (decide (L = M))) ∧ Below w.heap.size w w' := by
  obtain ⟨ao, cap, rfl, hn, hc⟩ := hl
  obtain ⟨bo, cbp, rfl, hn2, hd⟩ := hm
  clear hn hn2
  by_cases hlen : L.length = M.length
  · have hlb : ((L.length : Int) != (M.length : Int)) = false := by simp [hlen]
    have HL : Hid (L.length = M.length) := hlen
    clear hlen
    go_enter Tryd.func7, Tryd.ntmps7
    go_wp2
    go_loopw [5] (fun i wr => ∃ k : Nat, k ≤ L.length ∧ i = .int .i64 k ∧ Below w.heap.size w wr ∧ decide (L.take k = M.take k) = true) (fun i _ => L.length - (intOf i).toNat)
    case atStart => exact ⟨0, Nat.zero_le _, rfl, Below.refl _ _, by simp⟩
    case round =>
      obtain ⟨k, hkl, rfl, hbel, ho⟩ := hrel
      have HO : Hid (decide (L.take k = M.take k) = true) := ho
      clear ho
      by_cases h1 : k < L.length
      · have h2 : k < M.length := by rw [← HL.out]; exact h1
        obtain ⟨b, off, x, rfl, c1, c2⟩ := lieR_at hc hbel h1
        obtain ⟨b', off', y, rfl, d1, d2⟩ := lieR_at hd hbel h2
        have HD : Hid _ := sameRR_take h1 h2
        have h60 := hs.at h1
        have HX : Aside (L[k] ≠ M[k] → L ≠ M) := fun h e => h (by subst e; rfl)
        generalize L[k] = X at c1 c2 HD h60 HX
        generalize M[k] = Y at d1 d2 HD HX
        have HC : Aside _ := And.intro hc hd
        clear hc hd
        have i0 : (0 : Int) ≤ (k : Int) := by omega
        have i1 : (k : Int) < (L.length : Int) := by omega
        have i2 : (k : Int) < (M.length : Int) := by omega
        have cc1 : ∀ d os, (grow (redrawn wr d) os).cell? ⟨b, off + k, none⟩ = some x := fun d os => cell_regrown c1 d os
        have cc2 : ∀ d os, (grow (redrawn wr d) os).cell? ⟨b', off' + k, none⟩ = some y := fun d os => cell_regrown d1 d os
        go_wp2_with fail
        refine wp_region_quiet_below (by kernel_rfl) (by kernel_rfl) ?_
        repeat (quiet_step (exact Calls.regrown_of (same_any _ _ _ X Y (c2.keep (below_regrown ..)) (d2.keep (below_regrown ..)) h60)))
        refine wpQuiet_nil ?_
        rintro _ ⟨⟨dq, osq⟩, rfl⟩
        have hb := below_regrown wr dq osq
        clear cc1 cc2 c1 d1 c2 d2
        generalize grow (redrawn wr dq) osq = w1 at hb ⊢
        cases hz : sameB X Y
        · go_wp2_with fail
          go_ret
          have : L ≠ M := HX.out (by have := sameB_eq X Y; rw [hz] at this; simpa using this.symm)
          exact ⟨by rw [decide_eq_false this]; rfl, btrans hbel hb⟩
        · go_wp2_with fail
          go_roundw
          case rel => exact ⟨k + 1, by omega, by go_num, btrans hbel hb, by rw [HD.out, HO.out, hz]; rfl⟩
          case measure => simp [intOf]; omega
      · have hk : k = L.length := by omega
        subst hk
        go_wp2_with fail
        go_ret
        refine ⟨?_, hbel⟩
        have h := HO.out
        rw [List.take_length, HL.out, List.take_length] at h
        rw [h]
        rfl
  · have hlb : ((L.length : Int) != (M.length : Int)) = true := by simp; omega
    have he : decide (L = M) = false := decide_eq_false fun e => hlen (by rw [e])
    have HE : Hid (decide (L = M) = false) := he
    clear he hlen
    go_enter Tryd.func7, Tryd.ntmps7
    go_wp2
    go_ret
    refine ⟨?_, Below.refl _ _⟩
    rw [HE.out]
    rfl

/-- A row of one value that lies in a new block. -/
theorem Lies.one (w : World) (e : Ent) : Lies (w.alloc (.cells #[.int .i64 e.1, .int .i64 e.2.1, .string e.2.2] 34)) (.slice (some ⟨w.heap.size, 0, none⟩) 1 1) [e] := by
  refine ⟨_, 1, rfl, fun i hi => ⟨w.heap.size, 0, rfl, ?_⟩⟩
  match i, hi with
  | 0, _ => simp [go_sem]
theorem one_any (n : Int) (w : World) : Calls Tryd.prog 12 #[.int .i64 n] w fun e w' => ∃ g, e = .returned (.slice (some ⟨g, 0, none⟩) 1 1) ∧ Lies w' (.slice (some ⟨g, 0, none⟩) 1 1) [(2, n, E0)] ∧ Below w.heap.size w w' := by
  go_enter Tryd.func12, Tryd.ntmps12
  go_wp2_with fail
  refine (refInt_any _ _).mono ?_
  rintro e w1 ⟨rfl, b1⟩
  go_wp2_with fail
  go_ret
  exact ⟨_, rfl, Lies.one w1 (2, n, E0), b1.alloc b1.size _⟩

end Go.Proofs.YtalfeggddfpgeaaDoor
