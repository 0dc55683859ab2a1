/- The document's In, Distinct, Part and Same of lists of rows. -/
import Derived.Test.YtafbgmpbfonljaaDoorRwMem
import Derived.Test.YtafbgmpbfonljaaDoorSameRow
namespace Go.Proofs.YtafbgmpbfonljaaDoor
open Go.RowKit Go.Sort

/-- Rows of at most 60 values. -/
def Small (L : List Row) : Prop := ∀ r ∈ L, r.length ≤ 60
theorem Small.at {L : List Row} (h : Small L) {k : Nat} (hk : k < L.length) : L[k].length ≤ 60 := h _ (List.getElem_mem hk)
theorem memB_take {L : List Row} {r : Row} {k : Nat} (hk : k < L.length) : memB (L.take (k + 1)) r = (memB (L.take k) r || sameB L[k] r) := by
  rw [List.take_succ_eq_append_getElem hk, sameB_eq, memB, List.any_append]
  simp only [List.any_cons, List.any_nil, Bool.or_false]
  rfl

set_option maxHeartbeats 2000000 in
theorem in_any (w : World) (v u : Value) (L : List Row) (r : Row) (hl : LiesR w v L) (hr : Lies w u r) (hll : L.length ≤ 1000) (hs : Small L) :
    Calls Tryd.prog 25 #[v, u] w fun e w' => e = .returned (.bool (memB L r)) ∧ Below w.heap.size w w' := by
  obtain ⟨ao, cap, rfl, hn, hc⟩ := hl
  clear hn
  go_enter Tryd.func25, Tryd.ntmps25
  go_wp2
  go_loopw [5] (fun i wr => ∃ k : Nat, k ≤ L.length ∧ i = .int .i64 k ∧ Below w.heap.size w wr ∧ memB (L.take k) r = false) (fun i _ => L.length - (intOf i).toNat)
  case atStart => exact ⟨0, Nat.zero_le _, rfl, Below.refl _ _, rfl⟩
  case round =>
    obtain ⟨k, hk, rfl, hbel, ha⟩ := hrel
    have HA : Hid (memB (L.take k) r = false) := ha
    clear ha
    by_cases hlt : k < L.length
    · obtain ⟨b, off, x, rfl, g1, g2⟩ := lieR_at hc hbel hlt
      have HT : Hid (memB (L.take (k + 1)) r = (memB (L.take k) r || sameB L[k] r)) := memB_take hlt
      have HM : Hid (L[k] ∈ L) := List.getElem_mem hlt
      have h60 := hs.at hlt
      have g3 := hr.keep hbel
      generalize L[k] = y at g1 g2 HT HM h60
      have HC : Aside _ := hc
      clear hc
      cases hz : sameB y r
      · go_wp2_with (go_at_call 27; refine (same_any _ _ _ y r g2 g3 h60).mono ?_; rintro e w1 ⟨rfl, hb1⟩; rw [hz])
        go_roundw
        case rel => exact ⟨k + 1, by omega, by go_num, btrans hbel hb1, by rw [HT.out, HA.out, hz]; rfl⟩
        case measure => simp [intOf]; omega
      · go_wp2_with (go_at_call 27; refine (same_any _ _ _ y r g2 g3 h60).mono ?_; rintro e w1 ⟨rfl, hb1⟩; rw [hz])
        go_ret
        have : memB L r = true := by
          rw [memB_iff]
          have := sameB_eq y r
          rw [hz] at this
          have e : y = r := by simpa using this.symm
          exact e ▸ HM.out
        exact ⟨by rw [this]; rfl, btrans hbel hb1⟩
    · have hkk : k = L.length := by omega
      subst hkk
      rw [List.take_length] at HA
      go_wp2
      go_ret
      exact ⟨by rw [HA.out]; rfl, hbel⟩

/-- A slice of rows of the calls' own, whose rows lie in a world below. -/
theorem Own1.rows {w0 w : World} {base : Nat} {v : Value} {xs : List Value} {L : List Row} (h : Own1 w base 40 v xs) (ha : AllLie w0 xs L) (k : Below w0.heap.size w0 w) : LiesR w v L := h.lies.rows (ha.keep k)

theorem Small.of_mem {L M : List Row} (h : Small L) (hm : ∀ r ∈ M, r ∈ L) : Small M := fun r hr => h r (hm r hr)
theorem Small.dist {L : List Row} (h : Small L) : Small (distR L) := h.of_mem fun r hr => (mem_distR L r).1 hr
theorem Small.take {L : List Row} (h : Small L) (k : Nat) : Small (L.take k) := h.of_mem fun _ hr => List.mem_of_mem_take hr

set_option maxHeartbeats 2000000 in
theorem refDistinct_any (w : World) (v : Value) (L : List Row) (hl : LiesR w v L) (hll : L.length ≤ 1000) (hs : Small L) :
    Calls Tryd.prog 13 #[v] w fun e w' => ∃ u, e = .returned u ∧ LiesR w' u (distR L) ∧ Below w.heap.size w w' := by
  obtain ⟨ao, cap, rfl, hn, hc⟩ := hl
  clear hn
  go_enter Tryd.func13, Tryd.ntmps13
  go_wp2
  go_loopw [3, 4] (fun x i wr => ∃ (k : Nat) (xs : List Value), k ≤ L.length ∧ i = .int .i64 k ∧ Own1 wr w.heap.size 40 x xs ∧ AllLie w xs (distR (L.take k)) ∧ Below w.heap.size w wr) (fun _ i _ => L.length - (intOf i).toNat)
  case atStart => exact ⟨0, [], Nat.zero_le _, rfl, Own1.nil _ _ _, AllLie.nil _, Below.refl _ _⟩
  case round =>
    obtain ⟨k, xs, hk, rfl, hown, hall, hbel⟩ := hrel
    have hsz := hbel.size
    by_cases hlt : k < L.length
    · obtain ⟨b, off, y, rfl, g1, g2⟩ := hc k hlt
      have HT : Hid (distR (L.take (k + 1)) = if memB (L.take k) L[k] = true then distR (L.take k) else distR (L.take k) ++ [L[k]]) := distR_take hlt
      have HMB : Hid (memB (distR (L.take k)) L[k] = memB (L.take k) L[k]) := memB_congr (mem_distR (L.take k) L[k])
      generalize L[k] = r at g1 g2 HT HMB
      obtain ⟨yo, yc, rfl⟩ := g2.form
      have HC : Aside _ := hc
      clear hc
      have k1 := cell_keep g1 hbel
      have k2 := g2.keep hbel
      have hdl : (distR (L.take k)).length ≤ 1000 := Nat.le_trans (distR_length_le _) (by simp; omega)
      have hxl : xs.length ≤ 1000 := by rw [hall.1]; exact hdl
      have hrows := hown.rows hall hbel
      have hsm := (hs.take k).dist
      cases hz : memB (distR (L.take k)) r
      · go_wp2_with fail
        refine (in_any _ _ _ _ r hrows k2 hdl hsm).mono ?_
        rintro e w1 ⟨rfl, hb1⟩
        rw [hz]
        have k3 := cell_keep k1 hb1
        have hy1 : ∀ z ∈ [Value.slice yo r.length yc], z.oneCell' = true := by intro z h; rw [List.mem_singleton.1 h]; rfl
        have hown1 := hown.keep hb1
        have hsz1 := Nat.le_trans hsz hb1.size
        go_wp2_with (at_builtin; refine wpList_push1 info_R Tryd.underlying22 rfl (by decide) (.tmp 18) (.tmp 23) rfl rfl rfl (ys := [.slice yo r.length yc]) rfl rfl rfl hown1 hy1 hsz1 (by simp; omega) ?_; intro v2 w2 hr2 hb2 hg2)
        go_roundw
        case rel => exact ⟨k + 1, xs ++ [.slice yo r.length yc], by omega, by go_num, hr2, by rw [HT.out, if_neg (by rw [← HMB.out, hz]; simp)]; exact hall.snoc g2, (btrans hbel hb1).trans hb2⟩
        case measure => simp [intOf]; omega
      · go_wp2_with (go_at_call 25; refine (in_any _ _ _ _ r hrows k2 hdl hsm).mono ?_; rintro e w1 ⟨rfl, hb1⟩; rw [hz])
        go_roundw
        case rel => exact ⟨k + 1, xs, by omega, by go_num, hown.keep hb1, by rw [HT.out, if_pos (by rw [← HMB.out, hz])]; exact hall, btrans hbel hb1⟩
        case measure => simp [intOf]; omega
    · have hkk : k = L.length := by omega
      subst hkk
      rw [List.take_length] at hall
      go_wp2
      go_ret
      exact ⟨_, rfl, hown.rows hall hbel, hbel⟩

/-- Of each row once those that are some of another list, or none. -/
def partR (A B : List Row) (some : Bool) : List Row := (distR A).filter fun r => memB B r == some
theorem filter_take {L : List Row} {p : Row → Bool} {k : Nat} (hk : k < L.length) : (L.take (k + 1)).filter p = (L.take k).filter p ++ (if p L[k] = true then [L[k]] else []) := by
  rw [List.take_succ_eq_append_getElem hk, List.filter_append]
  by_cases h : p L[k] = true <;> simp [h]

set_option maxHeartbeats 2000000 in
theorem part_any (w : World) (v u : Value) (A B : List Row) (some : Bool) (hl : LiesR w v A) (hm : LiesR w u B) (hla : A.length ≤ 1000) (hlb : B.length ≤ 1000) (hs : Small A) (hsb : Small B) :
    Calls Tryd.prog 16 #[v, u, .bool some] w fun e w' => ∃ x, e = .returned x ∧ LiesR w' x (partR A B some) ∧ Below w.heap.size w w' := by
  go_enter Tryd.func16, Tryd.ntmps16
  obtain ⟨D, hD⟩ : ∃ D, D = distR A := ⟨_, rfl⟩
  have HDD : Hid (D = distR A) := hD
  clear hD
  go_wp2_with (go_at_call 13; refine (refDistinct_any _ _ A hl hla hs).mono ?_; rintro e w1 ⟨x1, rfl, hx1, hb1⟩; rw [← HDD.out] at hx1; obtain ⟨ao, cap, rfl, hn, hc⟩ := hx1)
  have hdl : (distR A).length ≤ 1000 := Nat.le_trans (distR_length_le _) hla
  have hm1 := hm.keep hb1
  clear hn
  rw [← HDD.out] at hdl
  have HD : Hid (partR A B some = D.filter fun r => memB B r == some) := by show _ = _; rw [HDD.out]; rfl
  have hsz1 := hb1.size
  go_loopw [7, 9] (fun x i wr => ∃ (k : Nat) (xs : List Value), k ≤ D.length ∧ i = .int .i64 k ∧ Own1 wr w1.heap.size 40 x xs ∧ AllLie w1 xs ((D.take k).filter fun r => memB B r == some) ∧ Below w1.heap.size w1 wr) (fun _ i _ => D.length - (intOf i).toNat)
  case atStart => exact ⟨0, [], Nat.zero_le _, rfl, Own1.nil _ _ _, AllLie.nil _, Below.refl _ _⟩
  case round =>
    obtain ⟨k, xs, hk, rfl, hown, hall, hbel⟩ := hrel
    have hsz := hbel.size
    by_cases hlt : k < D.length
    · obtain ⟨b, off, y, rfl, g1, g2⟩ := hc k hlt
      have HT : Hid ((D.take (k + 1)).filter (fun r => memB B r == some) = (D.take k).filter (fun r => memB B r == some) ++ (if (memB B D[k] == some) = true then [D[k]] else [])) := filter_take hlt
      generalize D[k] = r at g1 g2 HT
      obtain ⟨yo, yc, rfl⟩ := g2.form
      have HC : Aside _ := hc
      clear hc
      have k1 := cell_keep g1 hbel
      have k2 := g2.keep hbel
      have hm2 := hm1.keep hbel
      have hxl : xs.length ≤ 1000 := by rw [hall.1]; exact Nat.le_trans (List.length_filter_le ..) (by simp; omega)
      cases hz : (memB B r == some)
      · go_wp2_with (go_at_call 25; refine (in_any _ _ _ _ r hm2 k2 hlb hsb).mono ?_; rintro e w2 ⟨rfl, hb2⟩)
        go_roundw
        case rel => exact ⟨k + 1, xs, by omega, by go_num, hown.keep hb2, by rw [HT.out, if_neg (by rw [hz]; simp), List.append_nil]; exact hall, btrans hbel hb2⟩
        case measure => simp [intOf]; omega
      · go_wp2_with fail
        refine (in_any _ _ _ _ r hm2 k2 hlb hsb).mono ?_
        rintro e w2 ⟨rfl, hb2⟩
        have k3 := cell_keep k1 hb2
        have hy1 : ∀ z ∈ [Value.slice yo r.length yc], z.oneCell' = true := by intro z h; rw [List.mem_singleton.1 h]; rfl
        have hown1 := hown.keep hb2
        have hsz2 := Nat.le_trans hsz hb2.size
        go_wp2_with (at_builtin; refine wpList_push1 info_R Tryd.underlying22 rfl (by decide) (.tmp 26) (.tmp 31) rfl rfl rfl (ys := [.slice yo r.length yc]) rfl rfl rfl hown1 hy1 hsz2 (by simp; omega) ?_; intro v3 w3 hr3 hb3 hg3)
        go_roundw
        case rel => exact ⟨k + 1, xs ++ [.slice yo r.length yc], by omega, by go_num, hr3, by rw [HT.out, if_pos hz]; exact hall.snoc g2, (btrans hbel hb2).trans hb3⟩
        case measure => simp [intOf]; omega
    · have hkk : k = D.length := by omega
      subst hkk
      rw [List.take_length] at hall
      go_wp2
      go_ret
      exact ⟨_, rfl, by rw [HD.out]; exact hown.rows hall hbel, btrans hb1 hbel⟩

end Go.Proofs.YtafbgmpbfonljaaDoor
