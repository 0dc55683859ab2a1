/- The walk of TokenBack. -/
import Derived.Test.YtppihaaipkmpcaaDoorTokBackP
namespace Go.Proofs.YtppihaaipkmpcaaDoor
open Go.RowKit Go.Sort

theorem bytes_join (a b : List UInt8) : (⟨a.toArray⟩ : ByteArray) ++ ⟨b.toArray⟩ = ⟨(a ++ b).toArray⟩ := by
  refine toList_inj ?_
  rw [ByteArray.toList_eq, ByteArray.toList_eq]
  simp [ByteArray.data_append]
theorem backL_take {A : List Tk} {j : Nat} (h : j < A.length) : backL (A.take (j + 1)) = backL (A.take j) ++ (A[j].2.1.data.toList ++ [32]) := by
  unfold backL
  rw [List.take_succ_eq_append_getElem h, List.flatMap_append]
  simp only [List.flatMap_cons, List.flatMap_nil, List.append_nil]
theorem key_at {A B : List Tk} (h : B.map keyT = A.map keyT) {i : Nat} (ha : i < A.length) (hb : i < B.length) : A[i].1 = B[i].1 ∧ A[i].2.1 = B[i].2.1 ∧ A[i].2.2.1 = B[i].2.2.1 := by
  have h1 : (B.map keyT)[i]'(by simpa using hb) = (A.map keyT)[i]'(by simpa using ha) := by simp only [h]
  simp only [List.getElem_map, keyT, Prod.mk.injEq] at h1
  exact ⟨h1.1.symm, h1.2.1.symm, h1.2.2.symm⟩

set_option maxRecDepth 100000 in
set_option maxHeartbeats 4000000 in
theorem backW (w : World) (hmx : HasMax w) (s : ByteArray) : Calls Tryd.prog 4 #[.string s] w fun e w' => e = .returned (.bool true) ∧ Below w.heap.size w w' := by
  by_cases h9 : 9000 < s.size
  · have al := alive5_any w
    go_enter Tryd.func4, Tryd.ntmps4
    go_wp2_with fail
    refine al.mono ?_
    rintro e w1 ⟨rfl, b1⟩
    go_wp2_with fail
    go_ret
    exact ⟨rfl, b1⟩
  have p1 := scan_any w s (by omega) (.inl hmx)
  have hm := scanS_many s
  obtain ⟨⟨A, n, er⟩, hA⟩ : ∃ x, x = scanS s := ⟨_, rfl⟩
  rw [← hA] at p1 hm
  have HA : Hid (scanS s = (A, n, er)) := hA.symm
  clear hA
  dsimp only at p1 hm
  go_enter Tryd.func4, Tryd.ntmps4
  go_wp2_with fail
  refine p1.mono ?_
  rintro e w1 ⟨v, rfl, hl, b1⟩
  clear p1
  have hl0 := hl
  obtain ⟨ao, cap, rfl, _, hc⟩ := hl
  go_wp2_with fail
  go_loopw [6, 25] (fun x i wr => ∃ (j : Nat) (t : ByteArray), j ≤ A.length ∧ i = .int .i64 j ∧ x = .string t ∧ t = ⟨(backL (A.take j)).toArray⟩ ∧ t.size ≤ 31 * j ∧ (∀ k (hk : k < A.length), k < j → A[k].1 ≠ 3) ∧ Below w1.heap.size w1 wr) (fun _ i _ => A.length - (intOf i).toNat)
  case atStart => exact ⟨0, _, Nat.zero_le _, rfl, rfl, rfl, Nat.zero_le _, fun k _ hk => absurd hk (by omega), Below.refl _ _⟩
  case round =>
    obtain ⟨j, t, hj, rfl, rfl, ht, hts, hno, hbel⟩ := hrel
    have HT : Hid (t = ⟨(backL (A.take j)).toArray⟩) := ht
    have HN : Hid (∀ k (hk : k < A.length), k < j → A[k].1 ≠ 3) := hno
    clear ht hno
    by_cases h : j < A.length
    · obtain ⟨b, off, rfl, g0⟩ := lieG_at hc hbel h
      obtain ⟨c0, c1, c2, c3⟩ := tok_cells g0
      have i0 : (0 : Int) ≤ (j : Int) := by omega
      have i1 : (j : Int) < (A.length : Int) := by omega
      clear hc g0
      have HTK := backL_take h
      have HSH : Hid (A[j].1 ≠ 3 → A[j].2.1.size ≤ 30) := fun h3 => back_short HA.out A[j] (List.getElem_mem h) h3
      by_cases h3 : A[j].1 = 3
      · have q : (A[j].1 == 3) = true := by simpa using h3
        clear h3 HTK
        have hal := alive5_any (wr.alloc (.cells #[.int .i64 A[j].1, .string A[j].2.1, .int .i64 A[j].2.2.1, .int .i64 A[j].2.2.2] 34))
        go_wp2_with fail
        refine hal.mono ?_
        rintro e w2 ⟨rfl, b2⟩
        go_wp2_with fail
        go_ret
        exact ⟨rfl, btrans (btrans b1 hbel) (bnew b2)⟩
      · have q : (A[j].1 == 3) = false := by simpa using h3
        have hsh := HSH.out h3
        have HN' : Hid (∀ k (hk : k < A.length), k < j + 1 → A[k].1 ≠ 3) := fun k hk hkj => by
          by_cases c : k < j
          · exact HN.out k hk c
          · have : k = j := by omega
            subst this; exact h3
        have HX : Hid (t ++ A[j].2.1 ++ ⟨#[32]⟩ = ⟨(backL (A.take (j + 1))).toArray⟩) := by
          show t ++ _ ++ _ = _
          have e1 : (⟨#[32]⟩ : ByteArray) = ⟨[32].toArray⟩ := rfl
          have e2 : A[j].2.1 = ⟨A[j].2.1.data.toList.toArray⟩ := by simp
          rw [HTK, HT.out, e1]
          conv => lhs; rw [e2]
          rw [bytes_join, bytes_join, List.append_assoc]
        have HXS : Hid ((t ++ A[j].2.1 ++ ⟨#[32]⟩).size ≤ 31 * (j + 1)) := by
          show (t ++ A[j].2.1 ++ ⟨#[32]⟩).size ≤ _
          have e3 : (⟨#[32]⟩ : ByteArray).size = 1 := rfl
          rw [ByteArray.size_append, ByteArray.size_append, e3]
          omega
        clear h3 HTK HSH
        generalize A[j].2.1 = tx at *
        go_wp2_with fail
        go_roundw
        case rel => exact ⟨j + 1, _, by omega, by go_num, rfl, HX.out, HXS.out, HN'.out, hbel.alloc hbel.size _⟩
        case measure => simp [intOf]; omega
    · have hjn : j = A.length := by omega
      subst hjn
      rw [List.take_length] at HT
      have hbs : t.size = (backL A).length := by rw [HT.out]; simp [ByteArray.size]
      have HBS : Hid (t.size = (backL A).length) := hbs
      have hts2 : t.size ≤ 186031 := by omega
      clear hbs
      have p2 := scan_any wr t (by omega) (.inl (hmx.keep (btrans b1 hbel)))
      by_cases he : er = 0
      · have q1 : (er != 0) = false := by rw [he]; rfl
        by_cases h12 : 12000 < t.size
        · have h12' : decide ((12000 : Int) < (t.size : Int)) = true := by simp; omega
          go_wp2_with fail
          refine p2.mono ?_
          rintro e w2 ⟨v2, rfl, _, b2⟩
          replace b2 := btrans (btrans b1 hbel) b2
          go_wp2_with fail
          refine (alive5_any w2).mono ?_
          rintro e w3 ⟨rfl, b3⟩
          go_wp2_with fail
          go_ret
          exact ⟨rfl, btrans b2 b3⟩
        · have h12' : decide ((12000 : Int) < (t.size : Int)) = false := by simp; omega
          obtain ⟨B, hB, hBk⟩ := back_scan (s := s) (A := A) (p := n) (by rw [HA.out, he]) (fun x hx => by
            obtain ⟨k, hk, rfl⟩ := List.getElem_of_mem hx
            exact HN.out k hk hk) (by rw [← HBS.out]; omega)
          rw [← HT.out] at hB
          rw [hB] at p2
          dsimp only at p2
          have hlen : A.length = B.length := by have := congrArg List.length hBk; simpa using this.symm
          have HK : Hid (∀ i (ha : i < A.length) (hb : i < B.length), A[i].1 = B[i].1 ∧ A[i].2.1 = B[i].2.1 ∧ A[i].2.2.1 = B[i].2.2.1) := fun i ha hb => key_at hBk ha hb
          have hlb : ((A.length : Int) != (B.length : Int)) = false := by simp [hlen]
          have HL : Hid (A.length = B.length) := hlen
          replace hl0 := hl0.keep hbel
          clear hB hBk hlen he hc
          go_wp2_with fail
          refine p2.mono ?_
          rintro e w2 ⟨v2, rfl, hl2, b2⟩
          replace hl0 := hl0.keep b2
          replace b2 := btrans (btrans b1 hbel) b2
          obtain ⟨bo, cbp, rfl, _, hd⟩ := hl2
          obtain ⟨_, _, hv0, _, hc⟩ := hl0
          simp only [Value.slice.injEq, true_and] at hv0
          obtain ⟨rfl, rfl⟩ := hv0
          clear p2
          go_wp2_with fail
          go_loopw [64] (fun i wz => ∃ j : Nat, j ≤ A.length ∧ i = .int .i64 j ∧ Below w2.heap.size w2 wz) (fun i _ => A.length - (intOf i).toNat)
          case atStart => exact ⟨0, Nat.zero_le _, rfl, Below.refl _ _⟩
          case round =>
            obtain ⟨j, hj, rfl, hbz⟩ := hrel
            by_cases hja : j < A.length
            · have hjb : j < B.length := by rw [← HL.out]; exact hja
              obtain ⟨b, off, rfl, g1⟩ := lieG_at hc hbz hja
              obtain ⟨b', off', rfl, g2⟩ := lieG_at hd hbz hjb
              obtain ⟨p0, p1, p2, _⟩ := tok_cells g1
              obtain ⟨r0, r1, r2, _⟩ := tok_cells g2
              obtain ⟨e1, e2, e3⟩ := HK.out j hja hjb
              rw [← e1] at r0
              rw [← e2] at r1
              rw [← e3] at r2
              have i0 : (0 : Int) ≤ (j : Int) := by omega
              have i1 : (j : Int) < (A.length : Int) := by omega
              have i2 : (j : Int) < (B.length : Int) := by omega
              replace p0 := cell_regrown p0
              replace p1 := cell_regrown p1
              replace p2 := cell_regrown p2
              replace r0 := cell_regrown r0
              replace r1 := cell_regrown r1
              replace r2 := cell_regrown r2
              have n1 : (A[j].1 != A[j].1) = false := by simp
              have n2 : (A[j].2.1.toList != A[j].2.1.toList) = false := by simp
              have n3 : (A[j].2.2.1 != A[j].2.2.1) = false := by simp
              clear hc hd g1 g2 e1 e2 e3
              generalize A[j].1 = x1 at *
              generalize A[j].2.1 = x2 at *
              generalize A[j].2.2.1 = x3 at *
              go_wp2_with fail
              refine wp_region_quiet_below (by kernel_rfl) (by kernel_rfl) ?_
              repeat (first | go_big_quiet_step (fail) | quiet_step (fail))
              refine wpQuiet_nil ?_
              rintro _ ⟨⟨dq, osq⟩, rfl⟩
              have hbq := below_regrown wr dq osq
              go_wp2_with fail
              go_roundw
              case rel => exact ⟨j + 1, by omega, by go_num, btrans hbz hbq⟩
              case measure => simp [intOf]; omega
            · have hjn : j = A.length := by omega
              subst hjn
              clear hc hd
              have hal := alive5_any wr
              go_wp2_with fail
              refine hal.mono ?_
              rintro e w3 ⟨rfl, b3⟩
              go_wp2_with fail
              go_ret
              exact ⟨rfl, btrans (btrans b2 hbz) b3⟩
      · have q1 : (er != 0) = true := by simpa using he
        go_wp2_with fail
        refine p2.mono ?_
        rintro e w2 ⟨v2, rfl, _, b2⟩
        replace b2 := btrans (btrans b1 hbel) b2
        go_wp2_with fail
        refine (alive5_any w2).mono ?_
        rintro e w3 ⟨rfl, b3⟩
        go_wp2_with fail
        go_ret
        exact ⟨rfl, btrans b2 b3⟩

theorem back_walk (s : ByteArray) (_ : s.size ≤ maxLen) (w : World) (hmx : HasMax w) : Calls Tryd.prog 4 #[.string s] w fun e w' => e = .returned (.bool true) ∧ Below w.heap.size w w' := backW w hmx s

end Go.Proofs.YtppihaaipkmpcaaDoor
