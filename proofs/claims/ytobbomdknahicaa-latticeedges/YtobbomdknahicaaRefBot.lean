/- Contracts of the document's Bottom, Top and Above. -/
import Derived.Test.YtobbomdknahicaaRefJoin
namespace Go.Proofs.Ytobbomdknahicaa
open Go.RowKit Go.Sort

theorem info_int : (Try.prog.info? 3).map (fun i => (i.zero, i.size, i.bytes)) = some (some (.int .i64 0), 1, 8) := by kernel_rfl

set_option maxHeartbeats 4000000 in
theorem refBottom_any (w : World) (p : Value) (L : List ByteArray) (R : Nat → Nat → Bool) (hl : RLat w p L L.length R) (hL : L.length ≤ 1000) :
    Calls Try.prog 18 #[p] w fun e w' => e = .returned (.int .i64 (botI (leR L.length R) L.length)) ∧ Below w.heap.size w w' := by
  obtain ⟨le, hle⟩ : ∃ le, le = leR L.length R := ⟨_, rfl⟩
  have hq : ∀ (x y : Int) (w' : World), Below w.heap.size w w' → Calls Try.prog 22 #[p, .int .i64 x, .int .i64 y] w' fun e w'' => e = .returned (.bool (le x y)) ∧ Below w'.heap.size w' w'' := by
    subst hle
    exact fun x y w' g => refLeq_any w' p L R (hl.keep g) x y
  have HJ : Hid (botI (leR L.length R) L.length = firstI L.length fun c => (List.range L.length).all fun d => le (c : Int) (d : Int)) := by subst hle; rfl
  clear hle
  obtain ⟨q, ns, bs, rows, rfl, h1, _, h3, _⟩ := hl
  obtain ⟨ao, cap, rfl, _, hc⟩ := h3
  clear hc
  obtain ⟨n, hn⟩ : ∃ n, L.length = n := ⟨_, rfl⟩
  rw [HJ.out, hn]
  rw [hn] at h1 hL
  clear HJ hn
  go_enter Try.func18, Try.ntmps18
  go_wp2
  go_loopw [3] (fun i wr => ∃ k : Nat, k ≤ n ∧ i = .int .i64 k ∧ Below w.heap.size w wr ∧ ∀ c, c < k → ((List.range n).all fun d => le ((c : Nat) : Int) (d : Int)) = false) (fun i _ => n - (intOf i).toNat)
  case atStart => exact ⟨0, Nat.zero_le _, rfl, Below.refl _ _, fun c hc => absurd hc (by omega)⟩
  case round =>
    obtain ⟨k, hkl, rfl, hbel, hno⟩ := hrel
    have HN : Hid (∀ c, c < k → ((List.range n).all fun d => le ((c : Nat) : Int) (d : Int)) = false) := hno
    clear hno
    have g1 := cell_keep h1 hbel
    by_cases hk : k < n
    · go_wp2_with fail
      go_loopw [4, 5] (fun ok i wr => ∃ m : Nat, m ≤ n ∧ i = .int .i64 m ∧ ok = .bool ((List.range m).all fun d => le (k : Int) (d : Int)) ∧ Below w.heap.size w wr) (fun _ i _ => n - (intOf i).toNat)
      case atStart => exact ⟨0, Nat.zero_le _, rfl, rfl, hbel⟩
      case round =>
        obtain ⟨m, hml, rfl, rfl, hbe⟩ := hrel
        have g2 := cell_keep h1 hbe
        obtain ⟨ok, hok⟩ : ∃ ok, ok = ((List.range m).all fun d => le (k : Int) (d : Int)) := ⟨_, rfl⟩
        rw [← hok]
        by_cases hm : m < n
        · have HS : Hid (((List.range (m + 1)).all fun d => le (k : Int) (d : Int)) = (ok && le (k : Int) (m : Int))) := by
            show List.all _ _ = _
            rw [all_succ, ← hok]
          clear hok
          cases ok
          · go_wp2_with fail
            go_roundw
            case rel => exact ⟨m + 1, by omega, by go_num, by rw [HS.out]; rfl, hbe⟩
            case measure => simp [intOf]; omega
          · go_wp2_with fail
            refine (hq k m _ hbe).mono ?_
            rintro e w3 ⟨rfl, b3⟩
            go_wp2_with fail
            go_roundw
            case rel => exact ⟨m + 1, by omega, by go_num, by rw [HS.out]; rfl, btrans hbe b3⟩
            case measure => simp [intOf]; omega
        · have hmn : m = n := by omega
          subst hmn
          cases hokv : ok
          · have HF' : Hid (((List.range m).all fun d => le (k : Int) (d : Int)) = false) := by show List.all _ _ = _; rw [← hok, hokv]
            clear hok
            go_wp2_with fail
            go_roundw
            case rel => exact ⟨k + 1, by omega, by go_num, hbe, no_more (f := fun c : Nat => (List.range m).all fun d => le (c : Int) (d : Int)) HN.out HF'.out⟩
            case measure => simp [intOf]; omega
          · have HF' : Hid (firstI m (fun c : Nat => (List.range m).all fun d => le (c : Int) (d : Int)) = (k : Int)) := firstI_some hk (by rw [← hok, hokv]) HN.out
            clear hok
            go_wp2_with fail
            go_ret
            exact ⟨ret_int HF'.out.symm, hbe⟩
    · have HF' : Hid (firstI n (fun c : Nat => (List.range n).all fun d => le (c : Int) (d : Int)) = -1) := firstI_none fun c hc => HN.out c (by omega)
      have hkn : k = n := by omega
      subst hkn
      go_wp2_with fail
      go_ret
      exact ⟨ret_int HF'.out.symm, hbel⟩

set_option maxHeartbeats 4000000 in
theorem refTop_any (w : World) (p : Value) (L : List ByteArray) (R : Nat → Nat → Bool) (hl : RLat w p L L.length R) (hL : L.length ≤ 1000) :
    Calls Try.prog 20 #[p] w fun e w' => e = .returned (.int .i64 (topI (leR L.length R) L.length)) ∧ Below w.heap.size w w' := by
  obtain ⟨le, hle⟩ : ∃ le, le = flipI (leR L.length R) := ⟨_, rfl⟩
  have hq : ∀ (x y : Int) (w' : World), Below w.heap.size w w' → Calls Try.prog 22 #[p, .int .i64 y, .int .i64 x] w' fun e w'' => e = .returned (.bool (le x y)) ∧ Below w'.heap.size w' w'' := by
    subst hle
    exact fun x y w' g => refLeq_any w' p L R (hl.keep g) y x
  have HJ : Hid (topI (leR L.length R) L.length = firstI L.length fun c => (List.range L.length).all fun d => le (c : Int) (d : Int)) := by subst hle; rfl
  clear hle
  obtain ⟨q, ns, bs, rows, rfl, h1, _, h3, _⟩ := hl
  obtain ⟨ao, cap, rfl, _, hc⟩ := h3
  clear hc
  obtain ⟨n, hn⟩ : ∃ n, L.length = n := ⟨_, rfl⟩
  rw [HJ.out, hn]
  rw [hn] at h1 hL
  clear HJ hn
  go_enter Try.func20, Try.ntmps20
  go_wp2
  go_loopw [3] (fun i wr => ∃ k : Nat, k ≤ n ∧ i = .int .i64 k ∧ Below w.heap.size w wr ∧ ∀ c, c < k → ((List.range n).all fun d => le ((c : Nat) : Int) (d : Int)) = false) (fun i _ => n - (intOf i).toNat)
  case atStart => exact ⟨0, Nat.zero_le _, rfl, Below.refl _ _, fun c hc => absurd hc (by omega)⟩
  case round =>
    obtain ⟨k, hkl, rfl, hbel, hno⟩ := hrel
    have HN : Hid (∀ c, c < k → ((List.range n).all fun d => le ((c : Nat) : Int) (d : Int)) = false) := hno
    clear hno
    have g1 := cell_keep h1 hbel
    by_cases hk : k < n
    · go_wp2_with fail
      go_loopw [4, 5] (fun ok i wr => ∃ m : Nat, m ≤ n ∧ i = .int .i64 m ∧ ok = .bool ((List.range m).all fun d => le (k : Int) (d : Int)) ∧ Below w.heap.size w wr) (fun _ i _ => n - (intOf i).toNat)
      case atStart => exact ⟨0, Nat.zero_le _, rfl, rfl, hbel⟩
      case round =>
        obtain ⟨m, hml, rfl, rfl, hbe⟩ := hrel
        have g2 := cell_keep h1 hbe
        obtain ⟨ok, hok⟩ : ∃ ok, ok = ((List.range m).all fun d => le (k : Int) (d : Int)) := ⟨_, rfl⟩
        rw [← hok]
        by_cases hm : m < n
        · have HS : Hid (((List.range (m + 1)).all fun d => le (k : Int) (d : Int)) = (ok && le (k : Int) (m : Int))) := by
            show List.all _ _ = _
            rw [all_succ, ← hok]
          clear hok
          cases ok
          · go_wp2_with fail
            go_roundw
            case rel => exact ⟨m + 1, by omega, by go_num, by rw [HS.out]; rfl, hbe⟩
            case measure => simp [intOf]; omega
          · go_wp2_with fail
            refine (hq k m _ hbe).mono ?_
            rintro e w3 ⟨rfl, b3⟩
            go_wp2_with fail
            go_roundw
            case rel => exact ⟨m + 1, by omega, by go_num, by rw [HS.out]; rfl, btrans hbe b3⟩
            case measure => simp [intOf]; omega
        · have hmn : m = n := by omega
          subst hmn
          cases hokv : ok
          · have HF' : Hid (((List.range m).all fun d => le (k : Int) (d : Int)) = false) := by show List.all _ _ = _; rw [← hok, hokv]
            clear hok
            go_wp2_with fail
            go_roundw
            case rel => exact ⟨k + 1, by omega, by go_num, hbe, no_more (f := fun c : Nat => (List.range m).all fun d => le (c : Int) (d : Int)) HN.out HF'.out⟩
            case measure => simp [intOf]; omega
          · have HF' : Hid (firstI m (fun c : Nat => (List.range m).all fun d => le (c : Int) (d : Int)) = (k : Int)) := firstI_some hk (by rw [← hok, hokv]) HN.out
            clear hok
            go_wp2_with fail
            go_ret
            exact ⟨ret_int HF'.out.symm, hbe⟩
    · have HF' : Hid (firstI n (fun c : Nat => (List.range n).all fun d => le (c : Int) (d : Int)) = -1) := firstI_none fun c hc => HN.out c (by omega)
      have hkn : k = n := by omega
      subst hkn
      go_wp2_with fail
      go_ret
      exact ⟨ret_int HF'.out.symm, hbel⟩

theorem above_succ (le : Int → Int → Bool) (m : Nat) (a : Int) : aboveI le (m + 1) a = if le a (m : Int) = true then aboveI le m a ++ [(m : Int)] else aboveI le m a := by
  unfold aboveI
  rw [List.range_succ, List.map_append, List.filter_append]
  by_cases c : le a (m : Int) = true
  · rw [if_pos c]; simp [c]
  · rw [if_neg c]; simp [c]
theorem above_length (le : Int → Int → Bool) (m : Nat) (a : Int) : (aboveI le m a).length ≤ m := by
  have := List.length_filter_le (fun b => le a b) ((List.range m).map Int.ofNat)
  simpa [aboveI] using this

set_option maxHeartbeats 4000000 in
theorem refAbove_any (w : World) (p : Value) (L : List ByteArray) (R : Nat → Nat → Bool) (hl : RLat w p L L.length R) (hL : L.length ≤ 1000) (a : Int) :
    Calls Try.prog 29 #[p, .int .i64 a] w fun e w' => ∃ v, e = .returned v ∧ LiesN w' v (aboveI (leR L.length R) L.length a) ∧ Below w.heap.size w w' := by
  obtain ⟨le, hle⟩ : ∃ le, le = leR L.length R := ⟨_, rfl⟩
  have hq : ∀ (x y : Int) (w' : World), Below w.heap.size w w' → Calls Try.prog 22 #[p, .int .i64 x, .int .i64 y] w' fun e w'' => e = .returned (.bool (le x y)) ∧ Below w'.heap.size w' w'' := by
    subst hle
    exact fun x y w' g => refLeq_any w' p L R (hl.keep g) x y
  rw [← hle]
  clear hle
  obtain ⟨q, ns, bs, rows, rfl, h1, _, h3, _⟩ := hl
  obtain ⟨ao, cap, rfl, _, hc⟩ := h3
  clear hc
  obtain ⟨n, hn⟩ : ∃ n, L.length = n := ⟨_, rfl⟩
  rw [hn]
  rw [hn] at h1 hL
  clear hn
  go_enter Try.func29, Try.ntmps29
  go_wp2
  go_loopw [5, 6] (fun out i wr => ∃ k : Nat, k ≤ n ∧ i = .int .i64 k ∧ Own1 wr w.heap.size 3 out ((aboveI le k a).map (.int .i64)) ∧ Below w.heap.size w wr) (fun _ i _ => n - (intOf i).toNat)
  case atStart => exact ⟨0, Nat.zero_le _, rfl, Own1.nil _ _ _, Below.refl _ _⟩
  case round =>
    obtain ⟨k, hkl, rfl, ho, hbel⟩ := hrel
    have hsz := hbel.size
    have g1 := cell_keep h1 hbel
    obtain ⟨oa, ocap, rfl⟩ := ho.shape
    simp only [List.length_map] at ho
    by_cases hk : k < n
    · have hal := above_length le k a
      have HS : Hid (aboveI le (k + 1) a = if le a (k : Int) = true then aboveI le k a ++ [(k : Int)] else aboveI le k a) := above_succ le k a
      cases hac : le a (k : Int)
      · have HT : Hid (aboveI le (k + 1) a = aboveI le k a) := by show aboveI _ _ _ = _; rw [HS.out, hac]; simp
        go_wp2_with fail
        refine (hq a k _ hbel).mono ?_
        rintro e w1 ⟨rfl, b1⟩
        rw [hac]
        go_wp2_with fail
        go_roundw
        case rel => exact ⟨k + 1, by omega, by go_num, by rw [HT.out]; exact ho.keep b1, btrans hbel b1⟩
        case measure => simp [intOf]; omega
      · have HT : Hid (aboveI le (k + 1) a = aboveI le k a ++ [(k : Int)]) := by show aboveI _ _ _ = _; rw [HS.out, hac]; simp
        go_wp2_with fail
        refine (hq a k _ hbel).mono ?_
        rintro e w1 ⟨rfl, b1⟩
        have hsz1 := b1.size
        rw [hac]
        go_wp2_with (at_builtin; refine wpList_push1 info_int Try.underlying43 rfl (by decide) (.tmp 20) (.tmp 22) rfl rfl rfl (ys := [.int .i64 k]) rfl rfl rfl (ho.keep b1) (by intro y hy; simp at hy; subst hy; rfl) (by omega) (by simp; omega) ?_; intro v3 w3 hr3 hbe3 _)
        go_roundw
        case rel => exact ⟨k + 1, by omega, by go_num, by rw [HT.out, List.map_append]; exact hr3, (btrans hbel b1).trans hbe3⟩
        case measure => simp [intOf]; omega
    · have hkn : k = n := by omega
      subst hkn
      have hx : LiesN wr (.slice oa ((aboveI le k a).map (Value.int .i64)).length ocap) (aboveI le k a) := by rw [List.length_map]; exact ho.lies.ints
      go_wp2_with fail
      go_ret
      exact ⟨_, rfl, hx, hbel⟩

end Go.Proofs.Ytobbomdknahicaa
