/- Contracts of the document's Line and of the program's. -/
import Derived.Test.YtcnbbmgclphfdaaDoorCore2
import Derived.Test.YtcnbbmgclphfdaaDoorTokSpec
import Derived.Test.YtcnbbmgclphfdaaDoorShelf
namespace Go.Proofs.YtcnbbmgclphfdaaDoor
open Go.RowKit Go.Sort

theorem extract_mid (s : ByteArray) (k e : Nat) : s.extract k e = ⟨((s.data.toList.drop k).take (e - k)).toArray⟩ := by
  refine toList_inj ?_
  rw [ByteArray.toList_eq, ByteArray.toList_eq]
  simp [ByteArray.extract, ByteArray.copySlice]
theorem byte_at (s : ByteArray) {k : Nat} (h : k < s.size) : s.data.toList.drop k = s[k] :: s.data.toList.drop (k + 1) := by
  have h' : k < s.data.toList.length := by simpa using h
  rw [List.drop_eq_getElem_cons h']
  rfl
theorem byte_take (s : ByteArray) {k : Nat} (h : k < s.size) : s.data.toList.take (k + 1) = s.data.toList.take k ++ [s[k]] := by
  have h' : k < s.data.toList.length := by simpa using h
  rw [List.take_succ_eq_append_getElem h']
  rfl
set_option maxHeartbeats 2000000 in
theorem line_ref (w : World) (s : ByteArray) (hs : s.size ≤ 1000000) (k : Int) : Calls Tryd.prog 39 #[.string s, .int .i64 k] w fun e w' => e = .returned (.tuple #[.int .i64 ((lineS s k).1 : Int), .int .i64 ((lineS s k).2 : Int)]) ∧ Below w.heap.size w w' := by
  have HP : Hid (lineS s k = lineC (s.data.toList.take (placeN s k))) := rfl
  by_cases h0 : k < 0
  · have hp : placeN s k = 0 := by unfold placeN; rw [if_pos h0]
    rw [hp] at HP
    clear hp
    go_enter Tryd.func39, Tryd.ntmps39
    go_wp2_with fail
    go_loopw [6, 7, 8] (fun x y i wr => ∃ j : Nat, j ≤ 0 ∧ i = .int .i64 j ∧ x = .int .i64 ((lineC (s.data.toList.take j)).1 : Int) ∧ y = .int .i64 ((lineC (s.data.toList.take j)).2 : Int) ∧ Below w.heap.size w wr) (fun _ _ i _ => 0 - (intOf i).toNat)
    case atStart => exact ⟨0, Nat.zero_le _, rfl, rfl, rfl, Below.refl _ _⟩
    case round =>
      obtain ⟨j, hj, rfl, rfl, rfl, hbel⟩ := hrel
      have hn1 := lineC_le (s.data.toList.take j)
      rw [List.length_take] at hn1
      by_cases h : j < 0
      · exact absurd h (by omega)
      · have hjp : j = 0 := by omega
        subst hjp
        go_wp2_with fail
        go_ret2
        exact ⟨by rw [HP.out]; rfl, hbel⟩
  by_cases h1 : (s.size : Int) < k
  · have hp : placeN s k = s.size := by unfold placeN; rw [if_neg h0]; omega
    rw [hp] at HP
    clear hp
    go_enter Tryd.func39, Tryd.ntmps39
    go_wp2_with fail
    go_loopw [6, 7, 8] (fun x y i wr => ∃ j : Nat, j ≤ s.size ∧ i = .int .i64 j ∧ x = .int .i64 ((lineC (s.data.toList.take j)).1 : Int) ∧ y = .int .i64 ((lineC (s.data.toList.take j)).2 : Int) ∧ Below w.heap.size w wr) (fun _ _ i _ => s.size - (intOf i).toNat)
    case atStart => exact ⟨0, Nat.zero_le _, rfl, rfl, rfl, Below.refl _ _⟩
    case round =>
      obtain ⟨j, hj, rfl, rfl, rfl, hbel⟩ := hrel
      have hn1 := lineC_le (s.data.toList.take j)
      rw [List.length_take] at hn1
      by_cases h : j < s.size
      · have hjs : j < s.size := by omega
        have HT := lineC_snoc (s.data.toList.take j) s[j]
        rw [← byte_take s hjs] at HT
        generalize lineC (s.data.toList.take j) = ab at HT hn1 ⊢
        obtain ⟨a, b⟩ := ab
        dsimp only at HT hn1 ⊢
        by_cases hc : s[j].toNat = 10
        · have q : ((s[j].toNat : Int) == 10) = true := by rw [hc]; rfl
          rw [if_pos hc] at HT
          have HH : Hid (lineC (s.data.toList.take (j + 1)) = (a + 1, 1)) := HT
          clear HT hc
          go_wp2_with fail
          go_roundw
          case rel => exact ⟨j + 1, by omega, by go_num, by rw [HH.out]; go_num, by rw [HH.out]; rfl, hbel⟩
          case measure => simp [intOf]; omega
        · have q : ((s[j].toNat : Int) == 10) = false := by rw [beq_eq_false_iff_ne]; omega
          rw [if_neg hc] at HT
          have HH : Hid (lineC (s.data.toList.take (j + 1)) = (a, b + 1)) := HT
          clear HT hc
          go_wp2_with fail
          go_roundw
          case rel => exact ⟨j + 1, by omega, by go_num, by rw [HH.out], by rw [HH.out]; go_num, hbel⟩
          case measure => simp [intOf]; omega
      · have hjp : j = s.size := by omega
        subst hjp
        go_wp2_with fail
        go_ret2
        exact ⟨by rw [HP.out]; rfl, hbel⟩
  · have hp : placeN s k = k.toNat := by unfold placeN; rw [if_neg h0]; omega
    rw [hp] at HP
    obtain ⟨p, hkp⟩ : ∃ p : Nat, k = (p : Int) := ⟨k.toNat, by omega⟩
    subst hkp
    rw [Int.toNat_natCast] at HP
    clear hp
    go_enter Tryd.func39, Tryd.ntmps39
    go_wp2_with fail
    go_loopw [6, 7, 8] (fun x y i wr => ∃ j : Nat, j ≤ p ∧ i = .int .i64 j ∧ x = .int .i64 ((lineC (s.data.toList.take j)).1 : Int) ∧ y = .int .i64 ((lineC (s.data.toList.take j)).2 : Int) ∧ Below w.heap.size w wr) (fun _ _ i _ => p - (intOf i).toNat)
    case atStart => exact ⟨0, Nat.zero_le _, rfl, rfl, rfl, Below.refl _ _⟩
    case round =>
      obtain ⟨j, hj, rfl, rfl, rfl, hbel⟩ := hrel
      have hn1 := lineC_le (s.data.toList.take j)
      rw [List.length_take] at hn1
      by_cases h : j < p
      · have hjs : j < s.size := by omega
        have HT := lineC_snoc (s.data.toList.take j) s[j]
        rw [← byte_take s hjs] at HT
        generalize lineC (s.data.toList.take j) = ab at HT hn1 ⊢
        obtain ⟨a, b⟩ := ab
        dsimp only at HT hn1 ⊢
        by_cases hc : s[j].toNat = 10
        · have q : ((s[j].toNat : Int) == 10) = true := by rw [hc]; rfl
          rw [if_pos hc] at HT
          have HH : Hid (lineC (s.data.toList.take (j + 1)) = (a + 1, 1)) := HT
          clear HT hc
          go_wp2_with fail
          go_roundw
          case rel => exact ⟨j + 1, by omega, by go_num, by rw [HH.out]; go_num, by rw [HH.out]; rfl, hbel⟩
          case measure => simp [intOf]; omega
        · have q : ((s[j].toNat : Int) == 10) = false := by rw [beq_eq_false_iff_ne]; omega
          rw [if_neg hc] at HT
          have HH : Hid (lineC (s.data.toList.take (j + 1)) = (a, b + 1)) := HT
          clear HT hc
          go_wp2_with fail
          go_roundw
          case rel => exact ⟨j + 1, by omega, by go_num, by rw [HH.out], by rw [HH.out]; go_num, hbel⟩
          case measure => simp [intOf]; omega
      · have hjp : j = p := by omega
        subst hjp
        go_wp2_with fail
        go_ret2
        exact ⟨by rw [HP.out]; rfl, hbel⟩

theorem line_law (s : ByteArray) : ∀ k, k ≤ s.size → (lineC (s.data.toList.take k)).1 = (s.data.toList.take k).count 10 + 1 ∧ ((lineC (s.data.toList.take k)).2 : Int) = k - Lib.lastIdx s 10 k
  | 0, _ => ⟨rfl, rfl⟩
  | k + 1, h => by
    obtain ⟨h1, h2⟩ := line_law s k (by omega)
    have hk : k < s.size := by omega
    have hb : s.data[k]! = s[k] := by
      rw [getElem!_pos s.data k (by simpa using hk)]; rfl
    rw [byte_take s hk, lineC_snoc, List.count_append]
    by_cases hc : s[k].toNat = 10
    · have hc' : s[k] = 10 := UInt8.toNat_inj.1 hc
      rw [if_pos hc, Lib.lastIdx_hit s 10 k (by rw [hb, hc]; rfl)]
      refine ⟨?_, ?_⟩
      · rw [h1, hc']; rfl
      · simp; omega
    · have hc' : ¬ s[k] = 10 := fun e => hc (by rw [e]; rfl)
      rw [if_neg hc, Lib.lastIdx_miss s 10 k (by rw [hb]; omega)]
      refine ⟨?_, ?_⟩
      · show (lineC _).1 = _
        rw [h1]
        have : [s[k]].count 10 = 0 := by simp [hc']
        omega
      · show (((lineC (s.data.toList.take k)).2 + 1 : Nat) : Int) = _
        omega
theorem line_whole (s : ByteArray) : (lineC s.data.toList).1 = Lib.countByte s.data.toList 10 + 1 ∧ ((lineC s.data.toList).2 : Int) = s.size - Lib.lastIndexByte s 10 := by
  have := line_law s s.size (Nat.le_refl _)
  rw [List.take_of_length_le (by simp)] at this
  exact this

set_option maxHeartbeats 1000000 in
theorem line_any (w : World) (s : ByteArray) (hs : s.size ≤ 1000000) (k : Int) : Calls Tryd.prog 36 #[.string s, .int .i64 k] w fun e w' => e = .returned (.tuple #[.int .i64 ((lineS s k).1 : Int), .int .i64 ((lineS s k).2 : Int)]) ∧ Below w.heap.size w w' := by
  obtain ⟨p, hp⟩ : ∃ p, p = placeN s k := ⟨_, rfl⟩
  have hps : p ≤ s.size := by rw [hp]; exact placeN_le s k
  have he : (s.extract 0 p).data.toList = s.data.toList.take p := by
    rw [extract_mid]; simp
  have hx : (s.extract 0 p).size = p := by simp; omega
  have HL : Hid (lineS s k = lineC (s.extract 0 p).data.toList) := by show lineS s k = _; unfold lineS; rw [he, hp]
  have h12 := line_whole (s.extract 0 p)
  have a1 := Tryd.strings_Count_one (s.extract 0 p) 10 w
  have a2 := Tryd.strings_LastIndexByte (s.extract 0 p) 10 (by omega) w
  have hcl := lineC_le (s.extract 0 p).data.toList
  have hll : (s.extract 0 p).data.toList.length = p := by rw [he]; simp; omega
  rw [hll] at hcl
  rw [hx] at h12
  generalize Lib.countByte (s.extract 0 p).data.toList 10 = cn at a1 h12
  generalize Lib.lastIndexByte (s.extract 0 p) 10 = ix at a2 h12
  generalize lineC (s.extract 0 p).data.toList = ab at HL h12 hcl
  obtain ⟨a, b⟩ := ab
  dsimp only at h12 hcl
  obtain ⟨h1, h2⟩ := h12
  have i0 : (0 : Int) ≤ (p : Int) := by omega
  have i1 : (p : Int) ≤ (s.size : Int) := by omega
  have j1 : (cn : Int) + 1 = (a : Int) := by omega
  have j2 : (p : Int) - ix = (b : Int) := by omega
  have hmx : max 0 (min k (s.size : Int)) = (p : Int) := by
    rw [hp]; unfold placeN
    split <;> omega
  clear hp hll he
  have HJ : Hid ((cn : Int) + 1 = (a : Int) ∧ (p : Int) - ix = (b : Int)) := ⟨j1, j2⟩
  have j3 : cn ≤ 1000001 := by omega
  have j4 : -2 ≤ ix := by omega
  have j5 : ix ≤ 1000000 := by omega
  clear j1 j2 h1 h2
  go_enter Tryd.func36, Tryd.ntmps36
  go_wp2_with fail
  refine a1.mono ?_
  rintro e w1 ⟨rfl, hw1⟩
  subst w1
  go_wp2_with fail
  refine a2.mono ?_
  rintro e w1 ⟨rfl, hw1⟩
  subst w1
  go_wp2_with fail
  go_ret2
  exact ⟨by rw [HL.out]; show _ = Ending.returned (.tuple #[.int .i64 (a : Int), .int .i64 (b : Int)]); rw [← HJ.out.1, ← HJ.out.2]; rfl, Below.refl _ _⟩

end Go.Proofs.YtcnbbmgclphfdaaDoor
