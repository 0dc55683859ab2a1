/- Contracts of the two Orders of rows, and of Same. -/
import Derived.Test.YthbmcfbchomckaaOrdRef
import Derived.Test.YthbmcfbchomckaaOwnV
namespace Go.Proofs.Ythbmcfbchomckaa
open Go.RowKit Go.Sort

def ordE (e f : Ent) : Int := ordV e.1 e.2.1 e.2.2 f.1 f.2.1 f.2.2
/-- How two rows stand. -/
def ordRow : List Ent → List Ent → Int
  | [], [] => 0
  | [], _ :: _ => -1
  | _ :: _, [] => 1
  | e :: l, f :: m => if ordE e f = 0 then ordRow l m else ordE e f
/-- Are two rows the same? -/
def sameV (e f : Ent) : Bool := veq e.1 e.2.1 e.2.2 f.1 f.2.1 f.2.2
def sameB : List Ent → List Ent → Bool
  | [], [] => true
  | e :: l, f :: m => sameV e f && sameB l m
  | _, _ => false
theorem ordRow_drop {l m : List Ent} {k : Nat} (h : k < l.length) (h' : k < m.length) : ordRow (l.drop k) (m.drop k) = if ordE l[k] m[k] = 0 then ordRow (l.drop (k + 1)) (m.drop (k + 1)) else ordE l[k] m[k] := by
  rw [List.drop_eq_getElem_cons h, List.drop_eq_getElem_cons h']; rfl
theorem sameB_drop {l m : List Ent} {k : Nat} (h : k < l.length) (h' : k < m.length) : sameB (l.drop k) (m.drop k) = (sameV l[k] m[k] && sameB (l.drop (k + 1)) (m.drop (k + 1))) := by
  rw [List.drop_eq_getElem_cons h, List.drop_eq_getElem_cons h']; rfl
theorem ordRow_end {l m : List Ent} {k : Nat} (h : k ≤ l.length) (h' : k ≤ m.length) (he : k = l.length ∨ k = m.length) : ordRow (l.drop k) (m.drop k) = ordI l.length m.length := by
  rcases Nat.lt_or_ge k l.length with h1 | h1
  · have hk : k = m.length := by omega
    rw [List.drop_eq_getElem_cons h1, List.drop_eq_nil_of_le (show m.length ≤ k by omega)]
    have h3 : ¬ (l.length : Int) < m.length := by omega
    have h4 : (m.length : Int) < l.length := by omega
    simp [ordRow, ordI, h3, h4]
  · have hk : k = l.length := by omega
    rcases Nat.lt_or_ge k m.length with h2 | h2
    · rw [List.drop_eq_getElem_cons h2, List.drop_eq_nil_of_le h1]
      have h3 : (l.length : Int) < m.length := by omega
      simp [ordRow, ordI, h3]
    · rw [List.drop_eq_nil_of_le h1, List.drop_eq_nil_of_le h2]
      have h3 : l.length = m.length := by omega
      simp [ordRow, ordI, h3]
theorem sameB_length : ∀ {l m : List Ent}, sameB l m = true → l.length = m.length
  | [], [], _ => rfl
  | e :: l, f :: m, h => by
    simp only [sameB, Bool.and_eq_true] at h
    simpa using sameB_length h.2
  | [], _ :: _, h => by simp [sameB] at h
  | _ :: _, [], h => by simp [sameB] at h

/-- A row's entry in memory, in a later world. -/
theorem lie_at {w wr : World} {l : List Ent} {ao : Option Addr} {k : Nat} (hc : ∀ i (h : i < l.length), ∃ b off, ao = some ⟨b, off, none⟩ ∧ w.cell? ⟨b, off + i * 3, none⟩ = some (.int .i64 l[i].1) ∧
    w.cell? ⟨b, off + i * 3 + 1, none⟩ = some (.int .i64 l[i].2.1) ∧ w.cell? ⟨b, off + i * 3 + 2, none⟩ = some (.string l[i].2.2)) (hbel : Below w.heap.size w wr) (hk : k < l.length) :
    ∃ b off, ao = some ⟨b, off, none⟩ ∧ wr.cell? ⟨b, off + k * 3, none⟩ = some (.int .i64 l[k].1) ∧ wr.cell? ⟨b, off + k * 3 + 1, none⟩ = some (.int .i64 l[k].2.1) ∧ wr.cell? ⟨b, off + k * 3 + 2, none⟩ = some (.string l[k].2.2) := by
  obtain ⟨b, off, h0, h1, h2, h3⟩ := hc k hk
  exact ⟨b, off, h0, (hbel.cell (block_lt_of_cell h1)).trans h1, (hbel.cell (block_lt_of_cell h2)).trans h2, (hbel.cell (block_lt_of_cell h3)).trans h3⟩

set_option maxHeartbeats 2000000 in
theorem refOrdRow_any (w : World) (v u : Value) (l m : List Ent) (hl : Lies w v l) (hm : Lies w u m) (hll : l.length ≤ 60) (_ : m.length ≤ 60) (hf : Fair l) (hg : Fair m) :
    Calls Try.prog 17 #[v, u] w fun e w' => e = .returned (.int .i64 (ordRow l m)) ∧ Below w.heap.size w w' := by
  obtain ⟨ao, cap, rfl, hc⟩ := hl
  obtain ⟨bo, cbp, rfl, hd⟩ := hm
  go_enter Try.func17, Try.ntmps17
  go_wp2
  go_loopw [5] (fun i wr => ∃ k : Nat, k ≤ l.length ∧ k ≤ m.length ∧ i = .int .i64 k ∧ Below w.heap.size w wr ∧ ordRow l m = ordRow (l.drop k) (m.drop k)) (fun i _ => l.length - (intOf i).toNat)
  case atStart => exact ⟨0, Nat.zero_le _, Nat.zero_le _, rfl, Below.refl _ _, rfl⟩
  case round =>
    obtain ⟨k, hkl, hkm, rfl, hbel, ho⟩ := hrel
    have HO : Hid (ordRow l m = ordRow (l.drop k) (m.drop k)) := ho
    clear ho
    by_cases h1 : k < l.length
    · by_cases h2 : k < m.length
      · obtain ⟨b, off, rfl, g1, g2, g3⟩ := lie_at hc hbel h1
        obtain ⟨b', off', rfl, g4, g5, g6⟩ := lie_at hd hbel h2
        have HD : Hid (ordRow (l.drop k) (m.drop k) = if ordE l[k] m[k] = 0 then ordRow (l.drop (k + 1)) (m.drop (k + 1)) else ordE l[k] m[k]) := ordRow_drop h1 h2
        have hz1 := (hf _ (List.getElem_mem h1)).1
        have hz2 := (hg _ (List.getElem_mem h2)).1
        generalize l[k] = en at g1 g2 g3 HD hz1
        generalize m[k] = em at g4 g5 g6 HD hz2
        obtain ⟨t, n, s⟩ := en
        obtain ⟨t', n', s'⟩ := em
        simp only at g1 g2 g3 g4 g5 g6 hz1 hz2
        have HD' : Hid (ordRow (l.drop k) (m.drop k) = if ordV t n s t' n' s' = 0 then ordRow (l.drop (k + 1)) (m.drop (k + 1)) else ordV t n s t' n' s') := HD
        clear HD
        clear hc hd
        have i0 : (0 : Int) ≤ (k : Int) := by omega
        have i1 : (k : Int) < (l.length : Int) := by omega
        have i2 : (k : Int) < (m.length : Int) := by omega
        by_cases hz : ordV t n s t' n' s' = 0
        · have hz' : (ordV t n s t' n' s' != 0) = false := by simp [hz]
          have HZ : Hid (ordV t n s t' n' s' = 0) := hz
          clear hz
          go_wp2_with fail
          go_region_with (go_at_call 28; refine (refOrder_any t n s t' n' s' (by omega) (by omega) _).mono ?_; rintro e w1 ⟨rfl, hb1⟩)
          all_goals
            go_wp2_with fail
            go_roundw
            case rel => exact ⟨k + 1, by omega, by omega, by go_num, btrans hbel.drew hb1, by rw [HO.out, HD'.out, if_pos HZ.out]⟩
            case measure => simp [intOf]; omega
        · have hz' : (ordV t n s t' n' s' != 0) = true := by simp [hz]
          have HZ : Hid (¬ ordV t n s t' n' s' = 0) := hz
          clear hz
          go_wp2_with fail
          go_region_with (go_at_call 28; refine (refOrder_any t n s t' n' s' (by omega) (by omega) _).mono ?_; rintro e w1 ⟨rfl, hb1⟩)
          all_goals
            go_wp2_with fail
            go_ret
            refine ⟨ret_int ?_, btrans hbel.drew hb1⟩
            rw [HO.out, HD'.out, if_neg HZ.out]
      · have HE : Hid (ordRow (l.drop k) (m.drop k) = ordI l.length m.length) := ordRow_end hkl hkm (by omega)
        have h3 : m.length < l.length := by omega
        go_wp2_with fail
        go_ret
        refine ⟨ret_int ?_, hbel⟩
        rw [HO.out, HE.out]
        have h4 : ¬ (l.length : Int) < m.length := by omega
        have h5 : (m.length : Int) < l.length := by omega
        simp [ordI, h4, h5]
    · have HE : Hid (ordRow (l.drop k) (m.drop k) = ordI l.length m.length) := ordRow_end hkl hkm (by omega)
      by_cases h2 : l.length < m.length
      · go_wp2_with fail
        go_ret
        refine ⟨ret_int ?_, hbel⟩
        rw [HO.out, HE.out]
        have h4 : (l.length : Int) < m.length := by omega
        simp [ordI, h4]
      · have h3 : l.length = m.length := by omega
        have H3 : Hid (l.length = m.length) := h3
        have n1 : ¬ (l.length : Int) < m.length := by omega
        have n2 : ¬ (m.length : Int) < l.length := by omega
        clear h3 h2
        go_wp2_with fail
        go_ret
        refine ⟨ret_int ?_, hbel⟩
        rw [HO.out, HE.out, ordI, if_neg (by omega), if_neg (by omega)]

set_option maxHeartbeats 2000000 in
theorem compare_any (w : World) (v u : Value) (l m : List Ent) (hl : Lies w v l) (hm : Lies w u m) (hll : l.length ≤ 60) (_ : m.length ≤ 60) :
    Calls Try.prog 26 #[v, u, .func (.func 27) #[] #[]] w fun e w' => e = .returned (.int .i64 (ordRow l m)) ∧ Below w.heap.size w w' := by
  obtain ⟨ao, cap, rfl, hc⟩ := hl
  obtain ⟨bo, cbp, rfl, hd⟩ := hm
  go_enter Try.func26, Try.ntmps26
  go_wp2
  go_loopw [13] (fun i wr => ∃ k : Nat, k ≤ l.length ∧ k ≤ m.length ∧ i = .int .i64 k ∧ Below w.heap.size w wr ∧ ordRow l m = ordRow (l.drop k) (m.drop k)) (fun i _ => l.length - (intOf i).toNat)
  case atStart => exact ⟨0, Nat.zero_le _, Nat.zero_le _, rfl, Below.refl _ _, rfl⟩
  case round =>
    obtain ⟨k, hkl, hkm, rfl, hbel, ho⟩ := hrel
    have HO : Hid (ordRow l m = ordRow (l.drop k) (m.drop k)) := ho
    clear ho
    by_cases h1 : k < l.length
    · by_cases h2 : k < m.length
      · obtain ⟨b, off, rfl, g1, g2, g3⟩ := lie_at hc hbel h1
        have hb1 : b < wr.heap.size := block_lt_of_cell g1
        obtain ⟨b', off', rfl, g4, g5, g6⟩ := lie_at hd hbel h2
        have hb2 : b' < wr.heap.size := block_lt_of_cell g4
        have HD : Hid (ordRow (l.drop k) (m.drop k) = if ordE l[k] m[k] = 0 then ordRow (l.drop (k + 1)) (m.drop (k + 1)) else ordE l[k] m[k]) := ordRow_drop h1 h2
        generalize l[k] = en at g1 g2 g3 HD
        generalize m[k] = em at g4 g5 g6 HD
        obtain ⟨t, n, s⟩ := en
        obtain ⟨t', n', s'⟩ := em
        simp only at g1 g2 g3 g4 g5 g6
        have HD' : Hid (ordRow (l.drop k) (m.drop k) = if ordV t n s t' n' s' = 0 then ordRow (l.drop (k + 1)) (m.drop (k + 1)) else ordV t n s t' n' s') := HD
        clear HD hc hd
        by_cases hz : ordV t n s t' n' s' = 0
        · have hz' : (ordV t n s t' n' s' != 0) = false := by simp [hz]
          have HZ : Hid (ordV t n s t' n' s' = 0) := hz
          clear hz
          go_wp2_with (go_at_call 27; refine (order_any t n s t' n' s' _).mono ?_; rintro e w1 ⟨rfl, hbo⟩)
          go_roundw
          case rel => exact ⟨k + 1, by omega, by omega, by go_num, btrans hbel (bnew (bnew hbo)), by rw [HO.out, HD'.out, if_pos HZ.out]⟩
          case measure => simp [intOf]; omega
        · have hz' : (ordV t n s t' n' s' != 0) = true := by simp [hz]
          have HZ : Hid (¬ ordV t n s t' n' s' = 0) := hz
          clear hz
          go_wp2_with (go_at_call 27; refine (order_any t n s t' n' s' _).mono ?_; rintro e w1 ⟨rfl, hbo⟩)
          go_ret
          refine ⟨ret_int ?_, btrans hbel (bnew (bnew hbo))⟩
          rw [HO.out, HD'.out, if_neg HZ.out]
      · have HE : Hid (ordRow (l.drop k) (m.drop k) = ordI l.length m.length) := ordRow_end hkl hkm (by omega)
        obtain ⟨b, off, rfl, g1, g2, g3⟩ := lie_at hc hbel h1
        generalize l[k] = en at g1 g2 g3
        obtain ⟨t, n, s⟩ := en
        simp only at g1 g2 g3
        clear hc hd
        have h3 : m.length < l.length := by omega
        go_wp2_with fail
        go_ret
        refine ⟨ret_int ?_, btrans hbel (bnew (Below.refl _ _))⟩
        rw [HO.out, HE.out, ordI, if_neg (by omega), if_pos (by omega)]
    · have HE : Hid (ordRow (l.drop k) (m.drop k) = ordI l.length m.length) := ordRow_end hkl hkm (by omega)
      by_cases h2 : l.length < m.length
      · go_wp2_with fail
        go_ret
        refine ⟨ret_int ?_, hbel⟩
        rw [HO.out, HE.out, ordI, if_pos (by omega)]
      · have h3 : m.length ≤ l.length := by omega
        go_wp2_with fail
        go_ret
        refine ⟨ret_int ?_, hbel⟩
        rw [HO.out, HE.out, ordI, if_neg (by omega), if_neg (by omega)]

theorem ordRow_any (w : World) (v u : Value) (l m : List Ent) (hl : Lies w v l) (hm : Lies w u m) (hll : l.length ≤ 60) (hml : m.length ≤ 60) :
    Calls Try.prog 16 #[v, u] w fun e w' => e = .returned (.int .i64 (ordRow l m)) ∧ Below w.heap.size w w' := by
  go_enter Try.func16, Try.ntmps16
  go_wp2_with fail
  refine (compare_any _ v u l m hl hm hll hml).mono ?_
  rintro e w1 ⟨rfl, hb1⟩
  go_wp2
  go_ret
  exact ⟨rfl, hb1⟩

end Go.Proofs.Ythbmcfbchomckaa
