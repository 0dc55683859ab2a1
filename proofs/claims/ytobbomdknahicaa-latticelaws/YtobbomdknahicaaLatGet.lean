/- The program's lattice, as its calls read it, and contracts of Levels, Find, Leq, Join, Meet, Bottom, Top and Above. -/
import Derived.Test.YtobbomdknahicaaLatNames
import Derived.Test.YtobbomdknahicaaRefBot
namespace Go.Proofs.Ytobbomdknahicaa
open Go.RowKit Go.Sort

/-- p is the program's lattice of these names and edges. -/
def LatAt (w : World) (p : Value) (L : List ByteArray) (E : List (ByteArray × ByteArray)) : Prop :=
  latErr L E = 0 ∧ ∃ (q cap pb N : Nat) (ao : Option Addr) (A B : Nat → Nat) (J M : Nat → Nat → Int), p = .pointer (some ⟨q, 0, none⟩) ∧
    LatW w q (.slice ao L.length cap) (.map (some pb)) A B J M (botI (leL L E) L.length) (topI (leL L E) L.length) ∧ LiesS w (.slice ao L.length cap) L ∧ MapS w pb N (placeF L) ∧ IsMask (leL L E) A ∧
    ∀ a b, a < L.length → b < L.length → J a b = joinI (leL L E) L.length (a : Int) (b : Int) ∧ M a b = meetI (leL L E) L.length (a : Int) (b : Int)
theorem LatAt.keep {w w' : World} {p : Value} {L : List ByteArray} {E : List (ByteArray × ByteArray)} (h : LatAt w p L E) (g : Below w.heap.size w w') : LatAt w' p L E := by
  obtain ⟨h0, q, cap, pb, N, ao, A, B, J, M, h1, h2, h3, h4, h5⟩ := h
  exact ⟨h0, q, cap, pb, N, ao, A, B, J, M, h1, h2.keep g, h3.keep g, h4.keep g, h5⟩
theorem LatAt.ptr {w : World} {p : Value} {L : List ByteArray} {E : List (ByteArray × ByteArray)} (h : LatAt w p L E) : ∃ b, p = .pointer (some ⟨b, 0, none⟩) := by
  obtain ⟨_, q, _, _, _, _, _, _, _, _, h1, _⟩ := h
  exact ⟨q, h1⟩

theorem joinI_none {le : Int → Int → Bool} {n : Nat} (dom : ∀ a b, le a b = true → isI n a = true ∧ isI n b = true) {a b : Int} (h : isI n a = false ∨ isI n b = false) : joinI le n a b = -1 := by
  refine firstI_none fun c _ => ?_
  cases e : leastB le n a b (c : Int) with
  | false => rfl
  | true =>
    obtain ⟨h1, h2, _⟩ := (leastB_iff dom).1 e
    rcases h with h | h
    · rw [(dom _ _ h1).1] at h; cases h
    · rw [(dom _ _ h2).1] at h; cases h
theorem leL_dom {L : List ByteArray} {E : List (ByteArray × ByteArray)} (a b : Int) (h : leL L E a b = true) : isI L.length a = true ∧ isI L.length b = true := leI_dom a b h
theorem flip_dom {le : Int → Int → Bool} {n : Nat} (dom : ∀ a b, le a b = true → isI n a = true ∧ isI n b = true) (a b : Int) (h : flipI le a b = true) : isI n a = true ∧ isI n b = true := ⟨(dom b a h).2, (dom b a h).1⟩
theorem le_none {le : Int → Int → Bool} {n : Nat} (dom : ∀ a b, le a b = true → isI n a = true ∧ isI n b = true) {a b : Int} (h : isI n a = false ∨ isI n b = false) : le a b = false := by
  cases e : le a b with
  | false => rfl
  | true =>
    rcases h with h | h
    · rw [(dom _ _ e).1] at h; cases h
    · rw [(dom _ _ e).2] at h; cases h

set_option maxHeartbeats 1000000 in
theorem leq_any (w : World) (p : Value) (L : List ByteArray) (E : List (ByteArray × ByteArray)) (h : LatAt w p L E) (a b : Int) :
    Calls Try.prog 21 #[p, .int .i64 a, .int .i64 b] w fun e w' => e = .returned (.bool (leL L E a b)) ∧ Below w.heap.size w w' := by
  obtain ⟨h0, q, cap, pb, N, ao, A, B, J, M, rfl, h2, _, _, h5, _⟩ := h
  have hn : L.length ≤ 16 := (latErr_zero h0).1
  clear h0
  have i1 := fun w' (g : Below w.heap.size w w') => isLevel_any w' q L.length cap ao (h2.keep g).names a
  have i2 := fun w' (g : Below w.heap.size w w') => isLevel_any w' q L.length cap ao (h2.keep g).names b
  by_cases ha : isI L.length a = true
  · rw [ha] at i1
    by_cases hb : isI L.length b = true
    · rw [hb] at i2
      obtain ⟨x, hx, rfl⟩ := nat_of_isI ha
      obtain ⟨y, hy, rfl⟩ := nat_of_isI hb
      have HX : Hid ((A x).testBit y = leL L E (x : Int) (y : Int)) := h5 x y
      have hlt := h5.lt hn leL_dom x
      have ca := h2.above (a := x) (by omega)
      have j0 : (0 : Int) ≤ (x : Int) := by omega
      have j1 : (x : Int) < 16 := by omega
      clear ha hb h5
      go_enter Try.func21, Try.ntmps21
      go_wp2_with fail
      refine (i1 _ (Below.refl _ _)).mono ?_
      rintro e w1 ⟨rfl, b1⟩
      go_wp2_with fail
      refine (i2 _ b1).mono ?_
      rintro e w2 ⟨rfl, b2⟩
      replace b2 := btrans b1 b2
      replace ca := cell_keep ca b2
      go_wp2_with fail
      refine (has_any w2 (A x) y hlt (by omega)).mono ?_
      rintro e w3 ⟨rfl, b3⟩
      go_wp2_with fail
      go_ret
      exact ⟨ret_bool HX.out, btrans b2 b3⟩
    · replace hb : isI L.length b = false := by simpa using hb
      rw [hb] at i2
      have HX : Hid (leL L E a b = false) := le_none leL_dom (.inr hb)
      clear hb ha h5
      go_enter Try.func21, Try.ntmps21
      go_wp2_with fail
      refine (i1 _ (Below.refl _ _)).mono ?_
      rintro e w1 ⟨rfl, b1⟩
      go_wp2_with fail
      refine (i2 _ b1).mono ?_
      rintro e w2 ⟨rfl, b2⟩
      go_wp2_with fail
      go_ret
      exact ⟨ret_bool HX.out.symm, btrans b1 b2⟩
  · replace ha : isI L.length a = false := by simpa using ha
    rw [ha] at i1
    have HX : Hid (leL L E a b = false) := le_none leL_dom (.inl ha)
    clear ha h5
    go_enter Try.func21, Try.ntmps21
    go_wp2_with fail
    refine (i1 _ (Below.refl _ _)).mono ?_
    rintro e w1 ⟨rfl, b1⟩
    go_wp2_with fail
    go_ret
    exact ⟨ret_bool HX.out.symm, b1⟩

set_option maxHeartbeats 1000000 in
theorem join_any (w : World) (p : Value) (L : List ByteArray) (E : List (ByteArray × ByteArray)) (h : LatAt w p L E) (a b : Int) :
    Calls Try.prog 23 #[p, .int .i64 a, .int .i64 b] w fun e w' => e = .returned (.int .i64 (joinI (leL L E) L.length a b)) ∧ Below w.heap.size w w' := by
  obtain ⟨h0, q, cap, pb, N, ao, A, B, J, M, rfl, h2, _, _, _, h6⟩ := h
  have hn : L.length ≤ 16 := (latErr_zero h0).1
  clear h0
  have i1 := fun w' (g : Below w.heap.size w w') => isLevel_any w' q L.length cap ao (h2.keep g).names a
  have i2 := fun w' (g : Below w.heap.size w w') => isLevel_any w' q L.length cap ao (h2.keep g).names b
  by_cases ha : isI L.length a = true
  · rw [ha] at i1
    by_cases hb : isI L.length b = true
    · rw [hb] at i2
      obtain ⟨x, hx, rfl⟩ := nat_of_isI ha
      obtain ⟨y, hy, rfl⟩ := nat_of_isI hb
      have ca := h2.joins (a := x) (b := y) (by omega) (by omega)
      rw [(h6 x y hx hy).1] at ca
      have j0 : (0 : Int) ≤ (x : Int) := by omega
      have j1 : (x : Int) < 16 := by omega
      have j2 : (0 : Int) ≤ (y : Int) := by omega
      have j3 : (y : Int) < 16 := by omega
      clear ha hb h6
      generalize joinI (leL L E) L.length (x : Int) (y : Int) = z at ca ⊢
      go_enter Try.func23, Try.ntmps23
      go_wp2_with fail
      refine (i1 _ (Below.refl _ _)).mono ?_
      rintro e w1 ⟨rfl, b1⟩
      go_wp2_with fail
      refine (i2 _ b1).mono ?_
      rintro e w2 ⟨rfl, b2⟩
      replace b2 := btrans b1 b2
      replace ca := cell_keep ca b2
      go_wp2_with fail
      go_ret
      exact ⟨rfl, b2⟩
    · replace hb : isI L.length b = false := by simpa using hb
      rw [hb] at i2
      have HX : Hid (joinI (leL L E) L.length a b = -1) := joinI_none leL_dom (.inr hb)
      clear hb ha h6
      go_enter Try.func23, Try.ntmps23
      go_wp2_with fail
      refine (i1 _ (Below.refl _ _)).mono ?_
      rintro e w1 ⟨rfl, b1⟩
      go_wp2_with fail
      refine (i2 _ b1).mono ?_
      rintro e w2 ⟨rfl, b2⟩
      go_wp2_with fail
      go_ret
      exact ⟨ret_int HX.out.symm, btrans b1 b2⟩
  · replace ha : isI L.length a = false := by simpa using ha
    rw [ha] at i1
    have HX : Hid (joinI (leL L E) L.length a b = -1) := joinI_none leL_dom (.inl ha)
    clear ha h6
    go_enter Try.func23, Try.ntmps23
    go_wp2_with fail
    refine (i1 _ (Below.refl _ _)).mono ?_
    rintro e w1 ⟨rfl, b1⟩
    go_wp2_with fail
    go_ret
    exact ⟨ret_int HX.out.symm, b1⟩

set_option maxHeartbeats 1000000 in
theorem meet_any (w : World) (p : Value) (L : List ByteArray) (E : List (ByteArray × ByteArray)) (h : LatAt w p L E) (a b : Int) :
    Calls Try.prog 25 #[p, .int .i64 a, .int .i64 b] w fun e w' => e = .returned (.int .i64 (meetI (leL L E) L.length a b)) ∧ Below w.heap.size w w' := by
  obtain ⟨h0, q, cap, pb, N, ao, A, B, J, M, rfl, h2, _, _, _, h6⟩ := h
  have hn : L.length ≤ 16 := (latErr_zero h0).1
  clear h0
  have i1 := fun w' (g : Below w.heap.size w w') => isLevel_any w' q L.length cap ao (h2.keep g).names a
  have i2 := fun w' (g : Below w.heap.size w w') => isLevel_any w' q L.length cap ao (h2.keep g).names b
  by_cases ha : isI L.length a = true
  · rw [ha] at i1
    by_cases hb : isI L.length b = true
    · rw [hb] at i2
      obtain ⟨x, hx, rfl⟩ := nat_of_isI ha
      obtain ⟨y, hy, rfl⟩ := nat_of_isI hb
      have ca := h2.meets (a := x) (b := y) (by omega) (by omega)
      rw [(h6 x y hx hy).2] at ca
      have j0 : (0 : Int) ≤ (x : Int) := by omega
      have j1 : (x : Int) < 16 := by omega
      have j2 : (0 : Int) ≤ (y : Int) := by omega
      have j3 : (y : Int) < 16 := by omega
      clear ha hb h6
      generalize meetI (leL L E) L.length (x : Int) (y : Int) = z at ca ⊢
      go_enter Try.func25, Try.ntmps25
      go_wp2_with fail
      refine (i1 _ (Below.refl _ _)).mono ?_
      rintro e w1 ⟨rfl, b1⟩
      go_wp2_with fail
      refine (i2 _ b1).mono ?_
      rintro e w2 ⟨rfl, b2⟩
      replace b2 := btrans b1 b2
      replace ca := cell_keep ca b2
      go_wp2_with fail
      go_ret
      exact ⟨rfl, b2⟩
    · replace hb : isI L.length b = false := by simpa using hb
      rw [hb] at i2
      have HX : Hid (meetI (leL L E) L.length a b = -1) := joinI_none (flip_dom leL_dom) (.inr hb)
      clear hb ha h6
      go_enter Try.func25, Try.ntmps25
      go_wp2_with fail
      refine (i1 _ (Below.refl _ _)).mono ?_
      rintro e w1 ⟨rfl, b1⟩
      go_wp2_with fail
      refine (i2 _ b1).mono ?_
      rintro e w2 ⟨rfl, b2⟩
      go_wp2_with fail
      go_ret
      exact ⟨ret_int HX.out.symm, btrans b1 b2⟩
  · replace ha : isI L.length a = false := by simpa using ha
    rw [ha] at i1
    have HX : Hid (meetI (leL L E) L.length a b = -1) := joinI_none (flip_dom leL_dom) (.inl ha)
    clear ha h6
    go_enter Try.func25, Try.ntmps25
    go_wp2_with fail
    refine (i1 _ (Below.refl _ _)).mono ?_
    rintro e w1 ⟨rfl, b1⟩
    go_wp2_with fail
    go_ret
    exact ⟨ret_int HX.out.symm, b1⟩

theorem isI_zero {n : Nat} (h : 0 < n) : isI n 0 = true := isI_iff.2 ⟨by omega, by omega⟩
theorem bottom_any (w : World) (p : Value) (L : List ByteArray) (E : List (ByteArray × ByteArray)) (h : LatAt w p L E) :
    Calls Try.prog 17 #[p] w fun e w' => e = .returned (.int .i64 (botI (leL L E) L.length)) ∧ Below w.heap.size w w' := by
  obtain ⟨h0, q, cap, pb, N, ao, A, B, J, M, rfl, h2, _⟩ := h
  have i1 := isLevel_any w q L.length cap ao h2.names 0
  rw [isI_zero (latErr_zero h0).2.2.2.2.1] at i1
  have cb := h2.bot
  clear h0
  generalize botI (leL L E) L.length = z at cb ⊢
  go_enter Try.func17, Try.ntmps17
  go_wp2_with fail
  refine i1.mono ?_
  rintro e w1 ⟨rfl, b1⟩
  replace cb := cell_keep cb b1
  go_wp2_with fail
  go_ret
  exact ⟨rfl, b1⟩
theorem top_any (w : World) (p : Value) (L : List ByteArray) (E : List (ByteArray × ByteArray)) (h : LatAt w p L E) :
    Calls Try.prog 19 #[p] w fun e w' => e = .returned (.int .i64 (topI (leL L E) L.length)) ∧ Below w.heap.size w w' := by
  obtain ⟨h0, q, cap, pb, N, ao, A, B, J, M, rfl, h2, _⟩ := h
  have i1 := isLevel_any w q L.length cap ao h2.names 0
  rw [isI_zero (latErr_zero h0).2.2.2.2.1] at i1
  have cb := h2.top
  clear h0
  generalize topI (leL L E) L.length = z at cb ⊢
  go_enter Try.func19, Try.ntmps19
  go_wp2_with fail
  refine i1.mono ?_
  rintro e w1 ⟨rfl, b1⟩
  replace cb := cell_keep cb b1
  go_wp2_with fail
  go_ret
  exact ⟨rfl, b1⟩
theorem find_any (w : World) (p : Value) (L : List ByteArray) (E : List (ByteArray × ByteArray)) (h : LatAt w p L E) (s : ByteArray) (hs : s.size ≤ maxLen) :
    Calls Try.prog 13 #[p, .string s] w fun e w' => e = .returned (.tuple #[.int .i64 (if hasB L s = true then (posN L s : Int) else 0), .bool (hasB L s)]) ∧ Below w.heap.size w w' := by
  obtain ⟨h0, q, cap, pb, N, ao, A, B, J, M, rfl, h2, _, h4, _⟩ := h
  have l1 := h4.lookOk hs
  have cp := h2.places
  rw [placeF_some, placeF_getD] at l1
  clear h0
  generalize (if hasB L s = true then ((posN L s : Nat) : Int) else 0) = z at l1 ⊢
  generalize hasB L s = t at l1 ⊢
  go_enter Try.func13, Try.ntmps13
  go_wp2_with fail
  go_ret2
  exact ⟨rfl, Below.refl _ _⟩
set_option maxHeartbeats 1000000 in
theorem levels_any (w : World) (p : Value) (L : List ByteArray) (E : List (ByteArray × ByteArray)) (h : LatAt w p L E) :
    Calls Try.prog 16 #[p] w fun e w' => ∃ v, e = .returned v ∧ LiesS w' v L ∧ Below w.heap.size w w' := by
  obtain ⟨h0, q, cap, pb, N, ao, A, B, J, M, rfl, h2, h3, _⟩ := h
  have hn : L.length ≤ 16 := (latErr_zero h0).1
  have cn := h2.names
  clear h0
  go_enter Try.func16, Try.ntmps16
  go_upto_region 4 with (at_make; refine wpList_make1 infoS Try.underlying22 rfl (by decide) (.tmp 10) (.tmp 10) rfl rfl .i64 .i64 L.length rfl rfl (by omega) (Nat.le_refl _) ?_; intro w4 ho4 hb4; have c4 := (h2.keep hb4).names)
  have hsrc := (h3.keep hb4).cells
  go_wp2_with (refine wpList_copy1 Try.underlying22 (by kernel_rfl) (.tmp 12) (.tmp 16) rfl rfl rfl rfl ho4 hsrc (by simp) (oneS L) ?_; intro w6 ho6 hb6 hg6)
  go_ret
  exact ⟨_, rfl, ho6.lies.strings, hb4.trans hb6⟩
set_option maxHeartbeats 1000000 in
theorem above_any (w : World) (p : Value) (L : List ByteArray) (E : List (ByteArray × ByteArray)) (h : LatAt w p L E) (a : Int) :
    Calls Try.prog 28 #[p, .int .i64 a] w fun e w' => ∃ v, e = .returned v ∧ LiesN w' v (aboveI (leL L E) L.length a) ∧ Below w.heap.size w w' := by
  obtain ⟨h0, q, cap, pb, N, ao, A, B, J, M, rfl, h2, _, _, h5, _⟩ := h
  have hL : L.length ≤ 16 := (latErr_zero h0).1
  have i1 := isLevel_any w q L.length cap ao h2.names a
  clear h0
  by_cases ha : isI L.length a = true
  · rw [ha] at i1
    obtain ⟨x, hx, rfl⟩ := nat_of_isI ha
    have hlt := h5.lt hL leL_dom x
    obtain ⟨le, hle⟩ : ∃ le, le = leL L E := ⟨_, rfl⟩
    rw [← hle] at h5 ⊢
    have hbit : ∀ y : Nat, (A x).testBit y = le (x : Int) (y : Int) := fun y => h5 x y
    clear hle h5 ha
    obtain ⟨n, hn⟩ : ∃ n, L.length = n := ⟨_, rfl⟩
    rw [hn] at h2 hL hx ⊢
    clear hn
    have j0 : (0 : Int) ≤ (x : Int) := by omega
    have j1 : (x : Int) < 16 := by omega
    go_enter Try.func28, Try.ntmps28
    go_wp2_with fail
    refine i1.mono ?_
    rintro e w0 ⟨rfl, b0⟩
    have c0 := (h2.keep b0).names
    go_wp2_with fail
    go_loopw [5, 16] (fun out i wr => ∃ k : Nat, k ≤ n ∧ i = .int .i64 k ∧ Own1 wr w.heap.size 3 out ((aboveI le k (x : Int)).map (.int .i64)) ∧ Below w.heap.size w wr) (fun _ i _ => n - (intOf i).toNat)
    case atStart => exact ⟨0, Nat.zero_le _, rfl, Own1.nil _ _ _, b0⟩
    case round =>
      clear b0 c0 i1
      obtain ⟨k, hkl, rfl, ho, hbel⟩ := hrel
      have hsz := hbel.size
      have g1 := (h2.keep hbel).above (a := x) (by omega)
      obtain ⟨oa, ocap, rfl⟩ := ho.shape
      simp only [List.length_map] at ho
      by_cases hk : k < n
      · have hal := above_length le k (x : Int)
        have HS : Hid (aboveI le (k + 1) (x : Int) = if le (x : Int) (k : Int) = true then aboveI le k (x : Int) ++ [(k : Int)] else aboveI le k (x : Int)) := above_succ le k (x : Int)
        have hh := has_any wr (A x) k hlt (by omega)
        rw [hbit k] at hh
        cases hac : le (x : Int) (k : Int)
        · have HT : Hid (aboveI le (k + 1) (x : Int) = aboveI le k (x : Int)) := by show aboveI _ _ _ = _; rw [HS.out, hac]; simp
          rw [hac] at hh
          clear hbit
          go_wp2_with fail
          refine hh.mono ?_
          rintro e w1 ⟨rfl, b1⟩
          go_wp2_with fail
          go_roundw
          case rel => exact ⟨k + 1, by omega, by go_num, by rw [HT.out]; exact ho.keep b1, btrans hbel b1⟩
          case measure => simp [intOf]; omega
        · have HT : Hid (aboveI le (k + 1) (x : Int) = aboveI le k (x : Int) ++ [(k : Int)]) := by show aboveI _ _ _ = _; rw [HS.out, hac]; simp
          rw [hac] at hh
          clear hbit
          go_wp2_with fail
          refine hh.mono ?_
          rintro e w1 ⟨rfl, b1⟩
          have hsz1 := b1.size
          go_wp2_with (at_builtin; refine wpList_push1 info_int Try.underlying43 rfl (by decide) (.tmp 27) (.tmp 29) rfl rfl rfl (ys := [.int .i64 k]) rfl rfl rfl (ho.keep b1) (by intro y hy; simp at hy; subst hy; rfl) (by omega) (by simp; omega) ?_; intro v3 w3 hr3 hbe3 _)
          go_roundw
          case rel => exact ⟨k + 1, by omega, by go_num, by rw [HT.out, List.map_append]; exact hr3, (btrans hbel b1).trans hbe3⟩
          case measure => simp [intOf]; omega
      · have hkn : k = n := by omega
        subst hkn
        have hx : LiesN wr (.slice oa ((aboveI le k (x : Int)).map (Value.int .i64)).length ocap) (aboveI le k (x : Int)) := by rw [List.length_map]; exact ho.lies.ints
        clear hbit
        go_wp2_with fail
        go_ret
        exact ⟨_, rfl, hx, hbel⟩
  · replace ha : isI L.length a = false := by simpa using ha
    rw [ha] at i1
    have HX : Hid (aboveI (leL L E) L.length a = []) := by
      show aboveI _ _ _ = []
      unfold aboveI
      rw [List.filter_eq_nil_iff]
      intro b _
      rw [le_none leL_dom (.inl ha)]
      simp
    clear ha h5
    go_enter Try.func28, Try.ntmps28
    go_wp2_with fail
    refine i1.mono ?_
    rintro e w1 ⟨rfl, b1⟩
    go_wp2_with fail
    go_ret
    rw [HX.out]
    exact ⟨_, rfl, ⟨none, 0, rfl, ⟨fun _ => rfl, Nat.le_refl _⟩, fun i hi => absurd hi (by simp)⟩, b1⟩

theorem leq_nil (w : World) (a b : Int) : Calls Try.prog 21 #[.pointer none, .int .i64 a, .int .i64 b] w fun e w' => e = .returned (.bool false) ∧ Below w.heap.size w w' := by
  go_enter Try.func21, Try.ntmps21
  go_wp2_with fail
  refine (isLevel_nil w a).mono ?_
  rintro e w1 ⟨rfl, b1⟩
  go_wp2_with fail
  go_ret
  exact ⟨rfl, b1⟩
theorem join_nil (w : World) (a b : Int) : Calls Try.prog 23 #[.pointer none, .int .i64 a, .int .i64 b] w fun e w' => e = .returned (.int .i64 (-1)) ∧ Below w.heap.size w w' := by
  go_enter Try.func23, Try.ntmps23
  go_wp2_with fail
  refine (isLevel_nil w a).mono ?_
  rintro e w1 ⟨rfl, b1⟩
  go_wp2_with fail
  go_ret
  exact ⟨rfl, b1⟩
theorem meet_nil (w : World) (a b : Int) : Calls Try.prog 25 #[.pointer none, .int .i64 a, .int .i64 b] w fun e w' => e = .returned (.int .i64 (-1)) ∧ Below w.heap.size w w' := by
  go_enter Try.func25, Try.ntmps25
  go_wp2_with fail
  refine (isLevel_nil w a).mono ?_
  rintro e w1 ⟨rfl, b1⟩
  go_wp2_with fail
  go_ret
  exact ⟨rfl, b1⟩
theorem bottom_nil (w : World) : Calls Try.prog 17 #[.pointer none] w fun e w' => e = .returned (.int .i64 (-1)) ∧ Below w.heap.size w w' := by
  go_enter Try.func17, Try.ntmps17
  go_wp2_with fail
  refine (isLevel_nil w 0).mono ?_
  rintro e w1 ⟨rfl, b1⟩
  go_wp2_with fail
  go_ret
  exact ⟨rfl, b1⟩
theorem top_nil (w : World) : Calls Try.prog 19 #[.pointer none] w fun e w' => e = .returned (.int .i64 (-1)) ∧ Below w.heap.size w w' := by
  go_enter Try.func19, Try.ntmps19
  go_wp2_with fail
  refine (isLevel_nil w 0).mono ?_
  rintro e w1 ⟨rfl, b1⟩
  go_wp2_with fail
  go_ret
  exact ⟨rfl, b1⟩
theorem find_nil (w : World) (s : ByteArray) (_hs : s.size ≤ maxLen) : Calls Try.prog 13 #[.pointer none, .string s] w fun e w' => e = .returned (.tuple #[.int .i64 0, .bool false]) ∧ Below w.heap.size w w' := by
  go_enter Try.func13, Try.ntmps13
  go_wp2_with fail
  go_ret2
  exact ⟨rfl, Below.refl _ _⟩
theorem levels_nil (w : World) : Calls Try.prog 16 #[.pointer none] w fun e w' => ∃ ao cap, e = .returned (.slice ao 0 cap) ∧ Below w.heap.size w w' := by
  go_enter Try.func16, Try.ntmps16
  go_wp2_with fail
  go_ret
  exact ⟨_, _, rfl, Below.refl _ _⟩
theorem above_nil (w : World) (a : Int) : Calls Try.prog 28 #[.pointer none, .int .i64 a] w fun e w' => ∃ ao cap, e = .returned (.slice ao 0 cap) ∧ Below w.heap.size w w' := by
  go_enter Try.func28, Try.ntmps28
  go_wp2_with fail
  refine (isLevel_nil w a).mono ?_
  rintro e w1 ⟨rfl, b1⟩
  go_wp2_with fail
  go_ret
  exact ⟨_, _, rfl, b1⟩

end Go.Proofs.Ytobbomdknahicaa
