/- How the keys at two places stand: the program's closures. -/
import Derived.Test.YtalfeggddfpgeaaDoorRwKey
import Derived.Test.YtalfeggddfpgeaaDoorRwMem
import Derived.Test.YtalfeggddfpgeaaDoorOrdCmp
import Derived.Test.YtalfeggddfpgeaaDoorRwIns2
namespace Go.Proofs.YtalfeggddfpgeaaDoor
open Go.RowKit Go.Sort

/-- How the values i of two keys stand. -/
def ordAt (a b : Row) (i : Nat) : Int := if a.length ≤ i then -1 else if b.length ≤ i then 1 else ordE (a.getD i (0, 0, E0)) (b.getD i (0, 0, E0))

set_option maxHeartbeats 2000000 in
theorem orderAt_any (w : World) (v u : Value) (a b : Row) (i : Nat) (hv : Lies w v a) (hu : Lies w u b) (hi : i < 1000) :
    Calls Tryd.prog 29 #[v, u, .int .i64 i] w fun e w' => e = .returned (.int .i64 (ordAt a b i)) ∧ Below w.heap.size w w' := by
  obtain ⟨ao, ac, rfl, hc⟩ := hv
  obtain ⟨bo, bc, rfl, hd⟩ := hu
  by_cases h1 : a.length ≤ i
  · have hb1 : decide ((a.length : Int) ≤ (i : Int)) = true := by simp; omega
    have e1 : ordAt a b i = -1 := by unfold ordAt; rw [if_pos h1]
    have E1 : Hid (ordAt a b i = -1) := e1
    clear e1 hc hd
    go_enter Tryd.func29, Tryd.ntmps29
    go_wp2
    go_ret
    exact ⟨by rw [E1.out]; rfl, Below.refl _ _⟩
  · have hb1 : decide ((a.length : Int) ≤ (i : Int)) = false := by simp; omega
    by_cases h2 : b.length ≤ i
    · have hb2 : decide ((b.length : Int) ≤ (i : Int)) = true := by simp; omega
      have E1 : Hid (ordAt a b i = 1) := by show _ = _; unfold ordAt; rw [if_neg h1, if_pos h2]
      clear hc hd
      go_enter Tryd.func29, Tryd.ntmps29
      go_wp2
      go_ret
      exact ⟨by rw [E1.out]; rfl, Below.refl _ _⟩
    · have hb2 : decide ((b.length : Int) ≤ (i : Int)) = false := by simp; omega
      have h1' : i < a.length := by omega
      have h2' : i < b.length := by omega
      have E1 : Hid (ordAt a b i = ordE a[i] b[i]) := by show _ = _; unfold ordAt; rw [if_neg h1, if_neg h2]; simp [List.getD, h1', h2']
      obtain ⟨p, off, rfl, x1, x2, x3⟩ := hc i h1'
      obtain ⟨q, off', rfl, y1, y2, y3⟩ := hd i h2'
      generalize a[i] = en at E1 x1 x2 x3
      generalize b[i] = em at E1 y1 y2 y3
      obtain ⟨t, n, s⟩ := en
      obtain ⟨t', n', s'⟩ := em
      simp only at x1 x2 x3 y1 y2 y3
      have E2 : Hid (ordAt a b i = ordV t n s t' n' s') := E1.out
      clear hc hd E1
      have xx1 : ∀ d os, (grow (redrawn w d) os).cell? ⟨p, off + i * 3, none⟩ = some (.int .i64 t) := fun d os => cell_regrown x1 d os
      have xx2 : ∀ d os, (grow (redrawn w d) os).cell? ⟨p, off + i * 3 + 1, none⟩ = some (.int .i64 n) := fun d os => cell_regrown x2 d os
      have xx3 : ∀ d os, (grow (redrawn w d) os).cell? ⟨p, off + i * 3 + 2, none⟩ = some (.string s) := fun d os => cell_regrown x3 d os
      have yy1 : ∀ d os, (grow (redrawn w d) os).cell? ⟨q, off' + i * 3, none⟩ = some (.int .i64 t') := fun d os => cell_regrown y1 d os
      have yy2 : ∀ d os, (grow (redrawn w d) os).cell? ⟨q, off' + i * 3 + 1, none⟩ = some (.int .i64 n') := fun d os => cell_regrown y2 d os
      have yy3 : ∀ d os, (grow (redrawn w d) os).cell? ⟨q, off' + i * 3 + 2, none⟩ = some (.string s') := fun d os => cell_regrown y3 d os
      have i0 : (0 : Int) ≤ (i : Int) := by omega
      have i1 : (i : Int) < (a.length : Int) := by omega
      have i2 : (i : Int) < (b.length : Int) := by omega
      go_enter Tryd.func29, Tryd.ntmps29
      go_wp2_with fail
      refine wp_region_quiet_below (by kernel_rfl) (by kernel_rfl) ?_
      repeat (first | go_big_quiet_step (exact Calls.regrown_of (order_any _ _ _ _ _ _ _)) | quiet_step (exact Calls.regrown_of (order_any _ _ _ _ _ _ _)))
      refine wpQuiet_nil ?_
      rintro _ ⟨⟨dq, osq⟩, rfl⟩
      have hb := below_regrown w dq osq
      generalize grow (redrawn w dq) osq = w1 at hb ⊢
      go_wp2_with fail
      go_ret
      exact ⟨by rw [E2.out]; rfl, hb⟩

set_option maxHeartbeats 1000000 in
theorem keyAt_any (w : World) (vk : Value) (xs : List Value) (kb p : Nat) (hk : LiesC w vk xs) (hb : w.cell? ⟨kb, 0, none⟩ = some vk) :
    Calls Tryd.prog 27 #[.int .i64 p, .pointer (some ⟨kb, 0, none⟩)] w fun e w' => e = .returned (xs.getD p (.slice none 0 0)) ∧ w' = w := by
  obtain ⟨ao, cap, rfl, hn, hc⟩ := hk
  clear hn
  by_cases h : p < xs.length
  · have hb1 : decide ((xs.length : Int) ≤ (p : Int)) = false := by simp; omega
    obtain ⟨b, off, rfl, c1⟩ := hc p h
    have HG : Hid (xs.getD p (.slice none 0 0) = xs[p]) := by show _ = _; simp [List.getD, h]
    generalize xs[p] = R at c1 HG
    clear hc
    go_enter Tryd.func27, Tryd.ntmps27
    go_wp2
    go_ret
    exact ⟨by rw [HG.out]; rfl, rfl⟩
  · have hb1 : decide ((xs.length : Int) ≤ (p : Int)) = true := by simp; omega
    have HG : Hid (xs.getD p (.slice none 0 0) = .slice none 0 0) := by show _ = _; simp [List.getD, List.getElem?_eq_none (show xs.length ≤ p by omega)]
    clear hc
    go_enter Tryd.func27, Tryd.ntmps27
    go_wp2
    go_ret
    exact ⟨by rw [HG.out]; rfl, rfl⟩
theorem AllLie.getD {w : World} {xs : List Value} {K : List Row} (h : AllLie w xs K) (p : Nat) : Lies w (xs.getD p (.slice none 0 0)) (K.getD p []) := by
  by_cases c : p < xs.length
  · have c' : p < K.length := by rw [← h.1]; exact c
    simpa [List.getD, c, c'] using h.2 p c c'
  · have c' : ¬ p < K.length := by rw [← h.1]; exact c
    rw [show xs.getD p (.slice none 0 0) = .slice none 0 0 by simp [List.getD, List.getElem?_eq_none (Nat.le_of_not_lt c)], show K.getD p [] = [] by simp [List.getD, List.getElem?_eq_none (Nat.le_of_not_lt c')]]
    exact ⟨none, 0, rfl, fun i hi => absurd hi (by simp)⟩
/-- v is a slice of bools and holds d. -/
def LiesB (w : World) (v : Value) (d : List Bool) : Prop := LiesC w v (d.map .bool)
theorem ordAt_zero {a b : Row} {d : List Bool} {k : Nat} (hz : ordAt a b k = 0) : ordK (a.drop k) (b.drop k) (d.drop k) = ordK (a.drop (k + 1)) (b.drop (k + 1)) (d.drop (k + 1)) := by
  unfold ordAt at hz
  by_cases h1 : a.length ≤ k
  · rw [if_pos h1] at hz; omega
  · by_cases h2 : b.length ≤ k
    · rw [if_neg h1, if_pos h2] at hz; omega
    · rw [if_neg h1, if_neg h2] at hz
      have h1' : k < a.length := by omega
      have h2' : k < b.length := by omega
      rw [ordK_drop h1' h2', if_pos (by simpa [List.getD, h1', h2'] using hz)]
theorem ordAt_ne {a b : Row} {d : List Bool} {k : Nat} (h : k < max a.length b.length) (hz : ordAt a b k ≠ 0) : ordK (a.drop k) (b.drop k) (d.drop k) = flipD (d.drop k) (ordAt a b k) := by
  unfold ordAt at hz ⊢
  by_cases h1 : a.length ≤ k
  · rw [if_pos h1, ordK_left h1 (by omega)]
  · by_cases h2 : b.length ≤ k
    · rw [if_neg h1, if_pos h2, ordK_right (by omega) h2]
    · rw [if_neg h1, if_neg h2] at hz ⊢
      have h1' : k < a.length := by omega
      have h2' : k < b.length := by omega
      rw [ordK_drop h1' h2', if_neg (by simpa [List.getD, h1', h2'] using hz)]
      simp [List.getD, h1', h2']
theorem ordAt_range (a b : Row) (k : Nat) : -1 ≤ ordAt a b k ∧ ordAt a b k ≤ 1 := by
  unfold ordAt
  split
  · omega
  · split
    · omega
    · exact ⟨good_ordE.lo _ _, good_ordE.hi _ _⟩

set_option maxHeartbeats 4000000 in
theorem cmp_any (w : World) (vk vd : Value) (xs : List Value) (K : List Row) (d : List Bool) (kb fb db p q : Nat) (hk : LiesC w vk xs) (hx : AllLie w xs K) (hS : ∀ r ∈ K, r.length ≤ 60) (hd : LiesB w vd d)
    (h1 : w.cell? ⟨kb, 0, none⟩ = some vk) (h2 : w.cell? ⟨fb, 0, none⟩ = some (.func (.func 27) #[] #[.pointer (some ⟨kb, 0, none⟩)])) (h3 : w.cell? ⟨db, 0, none⟩ = some vd) :
    Calls Tryd.prog 28 #[.int .i64 p, .int .i64 q, .pointer (some ⟨fb, 0, none⟩), .pointer (some ⟨db, 0, none⟩)] w fun e w' => e = .returned (.int .i64 (cfK K d p q)) ∧ Below w.heap.size w w' := by
  have HA := hx.getD p
  have HB := hx.getD q
  have hla : (K.getD p []).length ≤ 60 := by
    by_cases c : p < K.length
    · rw [show K.getD p [] = K[p] by simp [List.getD, c]]; exact hS _ (List.getElem_mem c)
    · rw [show K.getD p [] = [] by simp [List.getD, List.getElem?_eq_none (Nat.le_of_not_lt c)]]; simp
  have hlb : (K.getD q []).length ≤ 60 := by
    by_cases c : q < K.length
    · rw [show K.getD q [] = K[q] by simp [List.getD, c]]; exact hS _ (List.getElem_mem c)
    · rw [show K.getD q [] = [] by simp [List.getD, List.getElem?_eq_none (Nat.le_of_not_lt c)]]; simp
  have kk : Aside (∀ dd os z, Calls Tryd.prog 27 #[.int .i64 (z : Nat), .pointer (some ⟨kb, 0, none⟩)] (grow (redrawn w dd) os) fun e w' => e = .returned (xs.getD z (.slice none 0 0)) ∧ Below (grow (redrawn w dd) os).heap.size (grow (redrawn w dd) os) w') := fun dd os z =>
    (keyAt_any _ vk xs kb z (hk.keep (below_regrown ..)) (cell_regrown h1 dd os)).mono fun _ _ h => ⟨h.1, h.2 ▸ Below.refl _ _⟩
  have cc2 : ∀ d os, (grow (redrawn w d) os).cell? ⟨fb, 0, none⟩ = some (.func (.func 27) #[] #[.pointer (some ⟨kb, 0, none⟩)]) := fun d os => cell_regrown h2 d os
  have HCF : Hid (cfK K d p q = ordK (K.getD p []) (K.getD q []) d) := rfl
  generalize K.getD p [] = A at *
  generalize K.getD q [] = B at *
  obtain ⟨aa, ac, hav⟩ := HA.form
  obtain ⟨ba, bc, hbv⟩ := HB.form
  rw [hav] at HA
  rw [hbv] at HB
  have HV : Aside _ := And.intro hav hbv
  clear hav hbv
  go_enter Tryd.func28, Tryd.ntmps28
  go_wp2_with fail
  refine wp_region_quiet_below (by kernel_rfl) (by kernel_rfl) ?_
  repeat (first | go_big_quiet_step (exact Calls.regrown_of (kk.out _ _ _)) | quiet_step (exact Calls.regrown_of (kk.out _ _ _)))
  refine wpQuiet_nil ?_
  rintro _ ⟨⟨dq, osq⟩, rfl⟩
  have hb := below_regrown w dq osq
  generalize grow (redrawn w dq) osq = w1 at hb ⊢
  rw [HV.out.1, HV.out.2]
  clear kk cc2 hx hk h1 h2 HV
  go_wp2_with fail
  · skip
    have hM : max A.length B.length = B.length := by omega
    go_loopw [22] (fun i wr => ∃ k : Nat, k ≤ B.length ∧ i = .int .i64 k ∧ Below w.heap.size w wr ∧ ordK A B d = ordK (A.drop k) (B.drop k) (d.drop k)) (fun i _ => B.length - (intOf i).toNat)
    case atStart => exact ⟨0, Nat.zero_le _, rfl, hb, by simp⟩
    case round =>
      obtain ⟨k, hk, rfl, hbel, ho⟩ := hrel
      have HO : Hid (ordK A B d = ordK (A.drop k) (B.drop k) (d.drop k)) := ho
      clear ho
      by_cases hkm : k < B.length
      · have hkt : decide ((k : Int) < (B.length : Int)) = true := by simp; omega
        have HZ : Aside (ordAt A B k = 0 → ordK A B d = ordK (A.drop (k + 1)) (B.drop (k + 1)) (d.drop (k + 1))) := fun h => by rw [HO.out]; exact ordAt_zero h
        have HN : Aside (ordAt A B k ≠ 0 → ordK A B d = if d.getD k false = true then -ordAt A B k else ordAt A B k) := fun h => by rw [HO.out, ordAt_ne (by omega) h, flipD, headD_drop]
        have hc := orderAt_any wr _ _ A B k (HA.keep hbel) (HB.keep hbel) (by omega)
        have hor := ordAt_range A B k
        generalize ordAt A B k = o at hc hor HZ HN
        have h3' := cell_keep h3 hbel
        by_cases hz : o = 0
        · subst hz
          go_wp2_with fail
          refine hc.mono ?_
          rintro e w2 ⟨rfl, hb2⟩
          clear hc
          go_wp2_with fail
          go_roundw
          case rel => exact ⟨k + 1, by omega, by go_num, btrans hbel hb2, HZ.out (by first | rfl | trivial)⟩
          case measure => simp [intOf]; omega
        · have hzb : (o != 0) = true := by simpa using hz
          have hwo : IntKind.i64.wrap (-o) = -o := by rw [IntKind.wrap_i64]; omega
          go_wp2_with fail
          refine hc.mono ?_
          rintro e w2 ⟨rfl, hb2⟩
          clear hc
          obtain ⟨dn, dc, hvd, _, hdc⟩ := (hd.keep hbel).keep hb2
          have h3'' := cell_keep h3' hb2
          rw [hvd] at h3''
          simp only [List.length_map] at h3'' hdc
          by_cases hkd : k < d.length
          · have hkdb : decide ((k : Int) < (d.length : Int)) = true := by simp; omega
            obtain ⟨b, off, rfl, hcell⟩ := hdc k hkd
            have hgd : d.getD k false = d[k] := by simp [List.getD, hkd]
            have hcell' : w2.cell? ⟨b, off + k, none⟩ = some (.bool d[k]) := by simpa using hcell
            have HN2 : Aside (ordK A B d = if d[k] = true then -o else o) := by show _ = _; rw [HN.out hz, hgd]
            clear hdc hcell hgd
            have j0 : (0 : Int) ≤ (k : Int) := by omega
            have j1 : (k : Int) < (d.length : Int) := by omega
            generalize d[k] = dk at hcell' HN2
            cases dk
            · go_wp2_with fail
              go_ret
              exact ⟨by rw [HCF.out, HN2.out]; rfl, btrans hbel hb2⟩
            · go_wp2_with fail
              go_ret
              exact ⟨by rw [HCF.out, HN2.out]; rfl, btrans hbel hb2⟩
          · have hkdb : decide ((k : Int) < (d.length : Int)) = false := by simp; omega
            have HN2 : Aside (ordK A B d = o) := by
              show _ = _
              rw [HN.out hz, show d.getD k false = false by simp [List.getD, List.getElem?_eq_none (Nat.le_of_not_lt hkd)]]; rfl
            clear hdc
            go_wp2_with fail
            go_ret
            exact ⟨by rw [HCF.out, HN2.out]; rfl, btrans hbel hb2⟩
      · have hkt : decide ((k : Int) < (B.length : Int)) = false := by simp; omega
        go_wp2_with fail
        go_ret
        exact ⟨by rw [HCF.out, HO.out, ordK_end (by omega) (by omega)]; rfl, hbel⟩
  · skip
    have hM : max A.length B.length = A.length := by omega
    go_loopw [22] (fun i wr => ∃ k : Nat, k ≤ A.length ∧ i = .int .i64 k ∧ Below w.heap.size w wr ∧ ordK A B d = ordK (A.drop k) (B.drop k) (d.drop k)) (fun i _ => A.length - (intOf i).toNat)
    case atStart => exact ⟨0, Nat.zero_le _, rfl, hb, by simp⟩
    case round =>
      obtain ⟨k, hk, rfl, hbel, ho⟩ := hrel
      have HO : Hid (ordK A B d = ordK (A.drop k) (B.drop k) (d.drop k)) := ho
      clear ho
      by_cases hkm : k < A.length
      · have hkt : decide ((k : Int) < (A.length : Int)) = true := by simp; omega
        have HZ : Aside (ordAt A B k = 0 → ordK A B d = ordK (A.drop (k + 1)) (B.drop (k + 1)) (d.drop (k + 1))) := fun h => by rw [HO.out]; exact ordAt_zero h
        have HN : Aside (ordAt A B k ≠ 0 → ordK A B d = if d.getD k false = true then -ordAt A B k else ordAt A B k) := fun h => by rw [HO.out, ordAt_ne (by omega) h, flipD, headD_drop]
        have hc := orderAt_any wr _ _ A B k (HA.keep hbel) (HB.keep hbel) (by omega)
        have hor := ordAt_range A B k
        generalize ordAt A B k = o at hc hor HZ HN
        have h3' := cell_keep h3 hbel
        by_cases hz : o = 0
        · subst hz
          go_wp2_with fail
          refine hc.mono ?_
          rintro e w2 ⟨rfl, hb2⟩
          clear hc
          go_wp2_with fail
          go_roundw
          case rel => exact ⟨k + 1, by omega, by go_num, btrans hbel hb2, HZ.out (by first | rfl | trivial)⟩
          case measure => simp [intOf]; omega
        · have hzb : (o != 0) = true := by simpa using hz
          have hwo : IntKind.i64.wrap (-o) = -o := by rw [IntKind.wrap_i64]; omega
          go_wp2_with fail
          refine hc.mono ?_
          rintro e w2 ⟨rfl, hb2⟩
          clear hc
          obtain ⟨dn, dc, hvd, _, hdc⟩ := (hd.keep hbel).keep hb2
          have h3'' := cell_keep h3' hb2
          rw [hvd] at h3''
          simp only [List.length_map] at h3'' hdc
          by_cases hkd : k < d.length
          · have hkdb : decide ((k : Int) < (d.length : Int)) = true := by simp; omega
            obtain ⟨b, off, rfl, hcell⟩ := hdc k hkd
            have hgd : d.getD k false = d[k] := by simp [List.getD, hkd]
            have hcell' : w2.cell? ⟨b, off + k, none⟩ = some (.bool d[k]) := by simpa using hcell
            have HN2 : Aside (ordK A B d = if d[k] = true then -o else o) := by show _ = _; rw [HN.out hz, hgd]
            clear hdc hcell hgd
            have j0 : (0 : Int) ≤ (k : Int) := by omega
            have j1 : (k : Int) < (d.length : Int) := by omega
            generalize d[k] = dk at hcell' HN2
            cases dk
            · go_wp2_with fail
              go_ret
              exact ⟨by rw [HCF.out, HN2.out]; rfl, btrans hbel hb2⟩
            · go_wp2_with fail
              go_ret
              exact ⟨by rw [HCF.out, HN2.out]; rfl, btrans hbel hb2⟩
          · have hkdb : decide ((k : Int) < (d.length : Int)) = false := by simp; omega
            have HN2 : Aside (ordK A B d = o) := by
              show _ = _
              rw [HN.out hz, show d.getD k false = false by simp [List.getD, List.getElem?_eq_none (Nat.le_of_not_lt hkd)]]; rfl
            clear hdc
            go_wp2_with fail
            go_ret
            exact ⟨by rw [HCF.out, HN2.out]; rfl, btrans hbel hb2⟩
      · have hkt : decide ((k : Int) < (A.length : Int)) = false := by simp; omega
        go_wp2_with fail
        go_ret
        exact ⟨by rw [HCF.out, HO.out, ordK_end (by omega) (by omega)]; rfl, hbel⟩

end Go.Proofs.YtalfeggddfpgeaaDoor
