/- Contracts of how the document tells values, rows and lists of rows. -/
import Derived.Test.YtcnbbmgclphfdaaDoorRpRefV
import Derived.Test.YtcnbbmgclphfdaaDoorRpValues
import Derived.Test.YtcnbbmgclphfdaaDoorRwMem
namespace Go.Proofs.YtcnbbmgclphfdaaDoor
open Go.RowKit Go.Sort

set_option maxHeartbeats 2000000 in
set_option maxRecDepth 100000 in
theorem refValue_any (w : World) (t n : Int) (s : ByteArray) (ht : t = 0 ∨ t = 1 ∨ t = 2 ∨ t = 3) (hn : inR n) (hs : s.size ≤ 1000000) : Calls Tryd.prog 12 #[V t n s] w fun e w' => e = .returned (.string (valB t n s)) ∧ Below w.heap.size w w' := by
  obtain ⟨W, hW⟩ : ∃ W, W = w.alloc (.cells #[.int .i64 t, .int .i64 n, .string s] 28) := ⟨_, rfl⟩
  have bW : Below w.heap.size w W := by rw [hW]; exact (Below.refl _ _).alloc (Nat.le_refl _) _
  rcases ht with rfl | rfl | rfl | rfl
  · go_enter Tryd.func12, Tryd.ntmps12
    go_wp2_with fail
    go_ret
    exact ⟨rfl, by rw [← hW]; exact bW⟩
  · have HV : Hid (valB 1 n s = if veq 1 n s 1 1 E0 = true then ⟨#[116, 114, 117, 101]⟩ else ⟨#[102, 97, 108, 115, 101]⟩) := rfl
    have hv := run_veq
    have k1 : Hid (∀ d os, Calls Tryd.prog 32 #[.bool true] (grow (redrawn W d) os) fun e w' => e = .returned (V 1 1 E0) ∧ Below (grow (redrawn W d) os).heap.size (grow (redrawn W d) os) w') := fun d os => refBool_any true _
    have c0 : ∀ d os, (grow (redrawn W d) os).cell? ⟨w.heap.size, 0, none⟩ = some (.int .i64 1) := fun d os => cell_regrown (by rw [hW]; simp [go_sem]) d os
    have c1 : ∀ d os, (grow (redrawn W d) os).cell? ⟨w.heap.size, 1, none⟩ = some (.int .i64 n) := fun d os => cell_regrown (by rw [hW]; simp [go_sem]) d os
    have c2 : ∀ d os, (grow (redrawn W d) os).cell? ⟨w.heap.size, 2, none⟩ = some (.string s) := fun d os => cell_regrown (by rw [hW]; simp [go_sem]) d os
    cases hb : veq 1 n s 1 1 E0
    all_goals
      rw [hb] at HV
      go_enter Tryd.func12, Tryd.ntmps12
      go_wp2_with fail
      rw [← hW]
      clear hW
      refine wp_region_quiet_below (by kernel_rfl) (by kernel_rfl) ?_
      repeat (first | go_big_quiet_step (exact Calls.regrown_of (k1.out _ _)) | quiet_step (exact Calls.regrown_of (k1.out _ _)))
      refine wpQuiet_nil ?_
      rintro _ ⟨⟨dq, osq⟩, rfl⟩
      have hbq := below_regrown W dq osq
      clear c0 c1 c2 k1 hv
      generalize grow (redrawn W dq) osq = w1 at hbq ⊢
      go_wp2_with fail
      go_ret
      exact ⟨by rw [HV.out]; rfl, btrans bW hbq⟩
  · have HV : Hid (valB 2 n s = decB n) := rfl
    go_enter Tryd.func12, Tryd.ntmps12
    go_wp2_with fail
    rw [← hW]
    refine (dec_any W n hn.1 hn.2).mono ?_
    rintro e w1 ⟨rfl, b1⟩
    go_wp2_with fail
    go_ret
    exact ⟨by rw [HV.out]; rfl, btrans bW b1⟩
  · exact refQuote w n s hs
theorem right_type {t n : Int} {z : ByteArray} (h : RightE (t, n, z)) : t = 0 ∨ t = 1 ∨ t = 2 ∨ t = 3 := by
  unfold RightE rightE at h
  simp only at h
  split at h
  · exact .inl (by assumption)
  split at h
  · exact .inr (.inl (by assumption))
  split at h
  · exact .inr (.inr (.inl (by assumption)))
  split at h
  · exact .inr (.inr (.inr (by assumption)))
  · exact absurd h (by decide)

theorem rowL_snoc (l : List Ent) (e : Ent) : rowL (l ++ [e]) = if l = [] then (valE e).data.toList else (rowL l ++ [44, 32]) ++ (valE e).data.toList := by
  induction l with
  | nil => simp [rowL_one]
  | cons a r ih =>
    rw [if_neg (by simp)]
    cases r with
    | nil =>
      show rowL [a, e] = _
      rw [rowL_two, rowL_one, rowL_one]
      simp
    | cons b r' =>
      rw [if_neg (by simp)] at ih
      show rowL (a :: b :: (r' ++ [e])) = _
      rw [rowL_two, rowL_two]
      have : rowL (b :: (r' ++ [e])) = rowL (b :: r' ++ [e]) := rfl
      rw [this, ih]
      simp

set_option maxHeartbeats 2000000 in
set_option maxRecDepth 100000 in
theorem refRow_any (w : World) (v : Value) (l : List Ent) (hl : Lies w v l) (hr : ∀ e ∈ l, RightE e) (hf : Fair l) (hn : l.length ≤ 60) :
    Calls Tryd.prog 10 #[v] w fun e w' => e = .returned (.string (rowB l)) ∧ Below w.heap.size w w' := by
  obtain ⟨ao, cap, rfl, hc⟩ := hl
  go_enter Tryd.func10, Tryd.ntmps10
  go_wp2_with fail
  go_loopw [3, 4] (fun z i wr => ∃ j : Nat, j ≤ l.length ∧ i = .int .i64 j ∧ z = .string (rowB (l.take j)) ∧ Below w.heap.size w wr) (fun _ i _ => l.length - (intOf i).toNat)
  case atStart => exact ⟨0, Nat.zero_le _, rfl, rfl, Below.refl _ _⟩
  case round =>
    obtain ⟨j, hj, rfl, rfl, hbel⟩ := hrel
    by_cases h : j < l.length
    · obtain ⟨b, off, rfl, h1, h2, h3⟩ := hc j h
      replace h1 := cell_keep h1 hbel
      replace h2 := cell_keep h2 hbel
      replace h3 := cell_keep h3 hbel
      have hfe := hf l[j] (List.getElem_mem h)
      have hre := hr l[j] (List.getElem_mem h)
      have hvs := valE_size hf (List.getElem_mem h)
      have hrs := rowB_size (l := l.take j) (fun e he => hf e (List.mem_of_mem_take he))
      rw [List.length_take] at hrs
      have hrs2 : (rowB (l.take j)).size ≤ 200000 := by omega
      clear hrs
      by_cases hj0 : j = 0
      · have HT : Hid (rowB (l.take (j + 1)) = rowB (l.take j) ++ valE l[j]) := by
          show rowB (l.take (j + 1)) = _
          subst hj0
          rw [List.take_succ_eq_append_getElem h]
          refine toList_inj ?_
          rw [ByteArray.toList_eq, ByteArray.toList_eq, rowB_data, rowL_snoc]
          simp [rowB, Lib.join_nil]
        have HE : Hid (valE l[j] = valB l[j].1 l[j].2.1 l[j].2.2) := rfl
        have hjb : decide ((0 : Int) < (j : Int)) = false := by simp; omega
        have hjb2 : (j : Int) ≤ 0 := by omega
        generalize rowB (l.take j) = R at *
        generalize valE l[j] = x at *
        generalize l[j] = E at *
        obtain ⟨t, n, s⟩ := E
        dsimp only at h1 h2 h3 hfe HE
        have kv := refValue_any wr t n s (right_type hre) hfe.2.2 (by omega)
        rw [← HE.out] at kv
        clear hc hj0
        go_wp2_with fail
        refine kv.mono ?_
        rintro e w2 ⟨rfl, b2⟩
        go_wp2_with fail
        go_roundw
        case rel => exact ⟨j + 1, by omega, by go_num, by rw [HT.out], btrans hbel b2⟩
        case measure => simp [intOf]; omega
      · have HT : Hid (rowB (l.take (j + 1)) = (rowB (l.take j) ++ ⟨#[44, 32]⟩) ++ valE l[j]) := by
          show rowB (l.take (j + 1)) = _
          rw [List.take_succ_eq_append_getElem h]
          refine toList_inj ?_
          rw [ByteArray.toList_eq, ByteArray.toList_eq, rowB_data, rowL_snoc, if_neg (by
            intro hh
            have h4 : (l.take j).length = j := by rw [List.length_take]; omega
            rw [hh] at h4
            exact hj0 h4.symm)]
          rw [ByteArray.data_append, ByteArray.data_append, Array.toList_append, Array.toList_append, rowB_data]
        have HE : Hid (valE l[j] = valB l[j].1 l[j].2.1 l[j].2.2) := rfl
        have hjb : decide ((0 : Int) < (j : Int)) = true := by simp; omega
        have hjb2 : 0 < (j : Int) := by omega
        generalize rowB (l.take j) = R at *
        generalize valE l[j] = x at *
        generalize l[j] = E at *
        obtain ⟨t, n, s⟩ := E
        dsimp only at h1 h2 h3 hfe HE
        have kv := refValue_any wr t n s (right_type hre) hfe.2.2 (by omega)
        rw [← HE.out] at kv
        clear hc hj0
        go_wp2_with fail
        refine kv.mono ?_
        rintro e w2 ⟨rfl, b2⟩
        go_wp2_with fail
        go_roundw
        case rel => exact ⟨j + 1, by omega, by go_num, by rw [HT.out], btrans hbel b2⟩
        case measure => simp [intOf]; omega
    · have hjl : j = l.length := by omega
      subst hjl
      have HR : Hid (rowB l = rowB (l.take l.length)) := by show rowB l = _; rw [List.take_of_length_le (Nat.le_refl _)]
      generalize rowB (l.take l.length) = R at *
      go_wp2_with fail
      go_ret
      exact ⟨by rw [HR.out]; rfl, hbel⟩

/-- The text of a list of rows. -/
def rowsL (L : List (List Ent)) : List UInt8 := L.flatMap fun r => rowL r ++ [10]
def rowsB (L : List (List Ent)) : ByteArray := ⟨(rowsL L).toArray⟩
theorem rowsB_data (L : List (List Ent)) : (rowsB L).data.toList = rowsL L := by simp [rowsB]
theorem rowsL_snoc (L : List (List Ent)) (r : List Ent) : rowsL (L ++ [r]) = rowsL L ++ (rowL r ++ [10]) := by simp [rowsL]
/-- Lists that are told. -/
def GoodL (L : List (List Ent)) : Prop := L.length ≤ 40 ∧ ∀ r ∈ L, r.length ≤ 40 ∧ Fair r ∧ ∀ e ∈ r, RightE e
theorem rowL_len {r : List Ent} (hf : Fair r) (h : r.length ≤ 40) : (rowL r).length ≤ 132160 := by
  have h1 := rowB_size hf
  rw [size_of_list (rowB_data r)] at h1
  omega
theorem rowsL_len {L : List (List Ent)} (h : ∀ r ∈ L, r.length ≤ 40 ∧ Fair r ∧ ∀ e ∈ r, RightE e) : (rowsL L).length ≤ 132161 * L.length := by
  induction L with
  | nil => simp [rowsL]
  | cons r L ih =>
    have h1 := rowL_len (h r (by simp)).2.1 (h r (by simp)).1
    have h2 := ih (fun x hx => h x (by simp [hx]))
    simp only [rowsL, List.flatMap_cons, List.length_append, List.length_cons, List.length_nil] at h2 ⊢
    omega

set_option maxHeartbeats 2000000 in
set_option maxRecDepth 100000 in
theorem refRows_any (w : World) (v : Value) (L : List (List Ent)) (hl : LiesR w v L) (hg : GoodL L) :
    Calls Tryd.prog 14 #[v] w fun e w' => e = .returned (.string (rowsB L)) ∧ Below w.heap.size w w' := by
  obtain ⟨h40, hg⟩ := hg
  obtain ⟨ao, cap, rfl, hn, hc⟩ := hl
  go_enter Tryd.func14, Tryd.ntmps14
  go_wp2_with fail
  go_loopw [3, 4] (fun z i wr => ∃ j : Nat, j ≤ L.length ∧ i = .int .i64 j ∧ z = .string (rowsB (L.take j)) ∧ Below w.heap.size w wr) (fun _ i _ => L.length - (intOf i).toNat)
  case atStart => exact ⟨0, Nat.zero_le _, rfl, rfl, Below.refl _ _⟩
  case round =>
    obtain ⟨j, hj, rfl, rfl, hbel⟩ := hrel
    by_cases h : j < L.length
    · obtain ⟨b, off, r, rfl, h1, h2⟩ := hc j h
      replace h1 := cell_keep h1 hbel
      replace h2 := h2.keep hbel
      have hge := hg L[j] (List.getElem_mem h)
      have HT : Hid (rowsB (L.take (j + 1)) = (rowsB (L.take j) ++ rowB L[j]) ++ ⟨#[10]⟩) := by
        show rowsB (L.take (j + 1)) = _
        rw [List.take_succ_eq_append_getElem h]
        refine toList_inj ?_
        rw [ByteArray.toList_eq, ByteArray.toList_eq, rowsB_data, rowsL_snoc]
        rw [ByteArray.data_append, ByteArray.data_append, Array.toList_append, Array.toList_append, rowsB_data, rowB_data, List.append_assoc]
      have s1 : (rowsB (L.take j)).size ≤ 10000000 := by
        have h3 := rowsL_len (L := L.take j) (fun x hx => hg x (List.mem_of_mem_take hx))
        rw [size_of_list (rowsB_data _)]
        rw [List.length_take] at h3
        omega
      have s2 : (rowB L[j]).size ≤ 1000000 := by
        have := rowB_size hge.2.1
        have := hge.1
        omega
      have kr := refRow_any wr r L[j] h2 hge.2.2 hge.2.1 (by have := hge.1; omega)
      generalize rowsB (L.take j) = R at *
      generalize rowB L[j] = x at *
      obtain ⟨ro, rcap, rfl, _⟩ := h2
      clear hc hge
      go_wp2_with fail
      refine kr.mono ?_
      rintro e w2 ⟨rfl, b2⟩
      go_wp2_with fail
      go_roundw
      case rel => exact ⟨j + 1, by omega, by go_num, by rw [HT.out], btrans hbel b2⟩
      case measure => simp [intOf]; omega
    · have hjl : j = L.length := by omega
      subst hjl
      have HR : Hid (rowsB L = rowsB (L.take L.length)) := by show rowsB L = _; rw [List.take_of_length_le (Nat.le_refl _)]
      generalize rowsB (L.take L.length) = R at *
      go_wp2_with fail
      go_ret
      exact ⟨by rw [HR.out]; rfl, hbel⟩

end Go.Proofs.YtcnbbmgclphfdaaDoor
