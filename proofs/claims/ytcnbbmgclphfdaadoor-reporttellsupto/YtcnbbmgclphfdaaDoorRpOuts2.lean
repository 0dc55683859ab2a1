/- Contracts of how what was told is told: the program's and the document's. -/
import Derived.Test.YtcnbbmgclphfdaaDoorRpOuts
namespace Go.Proofs.YtcnbbmgclphfdaaDoor
open Go.RowKit Go.Sort

set_option maxHeartbeats 1200000 in
set_option maxRecDepth 100000 in
theorem outs_any (w : World) (hG : Glob w) (v u : Value) (C : List (ByteArray × Int)) (O : List (Int × Ent)) (hC : LiesC2 w v C) (hO : LiesO w u O) (gC : GoodC C) (gO : GoodO O) (_ : C.length ≤ 30) :
    Calls Tryd.prog 15 #[v, u] w fun e w' => e = .returned (.string (outsB C O)) ∧ Below w.heap.size w w' := by
  obtain ⟨h60, gO⟩ := gO
  obtain ⟨ao, cap, rfl, hc⟩ := hO
  obtain ⟨co, ccap, rfl, hd⟩ := hC
  have hf := IsB.fresh w
  have bW : Below w.heap.size w (w.alloc (.cells #[.pointer none, .slice none 0 0] 61)) := (Below.refl _ _).alloc (Nat.le_refl _) _
  go_enter Tryd.func15, Tryd.ntmps15
  go_wp2_with fail
  generalize w.alloc (.cells #[.pointer none, .slice none 0 0] 61) = W at hf bW ⊢
  go_loopw [11] (fun i wr => ∃ j : Nat, j ≤ O.length ∧ i = .int .i64 j ∧ IsB w.heap.size w.heap.size (outsL C (O.take j)) wr ∧ Below w.heap.size w wr) (fun i _ => O.length - (intOf i).toNat)
  case atStart => exact ⟨0, Nat.zero_le _, rfl, hf, bW⟩
  case round =>
    clear hf bW
    obtain ⟨j, hj, rfl, hB, hbel⟩ := hrel
    have s1 : (outsL C (O.take j)).length ≤ 200000000 := by
      have h3 := outsL_len gC (O := O.take j) (fun x hx => gO x (List.mem_of_mem_take hx))
      rw [List.length_take] at h3
      omega
    by_cases h : j < O.length
    · obtain ⟨b, off, rfl, h1, h2, h3, h4⟩ := hc j h
      replace h1 := cell_keep h1 hbel
      replace h2 := cell_keep h2 hbel
      replace h3 := cell_keep h3 hbel
      replace h4 := cell_keep h4 hbel
      have hge := gO O[j] (List.getElem_mem h)
      have HT : Hid (outsL C (O.take (j + 1)) = outsL C (O.take j) ++ (((chanB C O[j].1 ++ ⟨#[32]⟩) ++ valE O[j].2) ++ ⟨#[10]⟩).data.toList) := by
        show outsL C (O.take (j + 1)) = _
        rw [List.take_succ_eq_append_getElem h, outsL_snoc]; rfl
      have s2 := outB_size gC hge
      have HE : Hid (valE O[j].2 = valB O[j].2.1 O[j].2.2.1 O[j].2.2.2) := rfl
      have sv : (valE O[j].2).size ≤ 3302 := valB_size hge.2.1 hge.1
      have sc := chanB_size gC O[j].1
      rw [show outB C O[j] = (((chanB C O[j].1 ++ ⟨#[32]⟩) ++ valE O[j].2) ++ ⟨#[10]⟩) from rfl] at s2
      generalize outsL C (O.take j) = R at *
      generalize valE O[j].2 = x at *
      generalize O[j] = o at *
      obtain ⟨c, t, n, s⟩ := o
      dsimp only at h1 h2 h3 h4 hge HE HT s2 sc
      have kv : Hid (∀ w0, Below wr.heap.size wr w0 → Calls Tryd.prog 11 #[V t n s] w0 fun e w' => e = .returned (.string x) ∧ Below w0.heap.size w0 w') := fun w0 b0 => by
        have := value_any w0 ((hG.keep hbel).keep b0) t n s hge.2.1 (by have := hge.1; omega)
        rwa [← HE.out] at this
      obtain ⟨Wn, hWn⟩ : ∃ Wn, Wn = wr.alloc (.cells #[.int .i64 c, .int .i64 t, .int .i64 n, .string s] 30) := ⟨_, rfl⟩
      have bn : Below wr.heap.size wr Wn := by rw [hWn]; exact (Below.refl _ _).alloc (Nat.le_refl _) _
      clear hc hge
      by_cases hc0 : c < 0
      · have hch : chanB C c = ⟨#[63]⟩ := chanB_out (.inl hc0)
        rw [hch] at HT s2 sc
        have q0 : decide (0 ≤ c) = false := by simp; omega
        clear hd hch
        go_wp2_with fail
        rw [← hWn]
        clear hWn
        refine (kv.out Wn bn).mono ?_
        rintro e w2 ⟨rfl, b2⟩
        replace b2 := btrans bn b2
        replace hB := hB.keep b2
        replace hbel := btrans hbel b2
        go_wp2_with fail
        refine (writeString_any w.heap.size w.heap.size R ((((⟨#[63]⟩ : ByteArray) ++ (⟨#[32]⟩ : ByteArray)) ++ x) ++ (⟨#[10]⟩ : ByteArray)) w2 hB (by omega) hbel.size).mono ?_
        rintro e w3 ⟨rfl, hB3, b3⟩
        go_wp2_with fail
        go_roundw
        case rel => exact ⟨j + 1, by omega, by go_num, by rw [HT.out]; exact hB3, hbel.trans b3⟩
        case measure => simp [intOf]; omega
      by_cases hc1 : (C.length : Int) ≤ c
      · have hch : chanB C c = ⟨#[63]⟩ := chanB_out (.inr hc1)
        rw [hch] at HT s2 sc
        have q0 : decide (0 ≤ c) = true := by simp; omega
        have q1 : decide (c < (C.length : Int)) = false := by simp; omega
        clear hd hch
        go_wp2_with fail
        rw [← hWn]
        clear hWn
        refine (kv.out Wn bn).mono ?_
        rintro e w2 ⟨rfl, b2⟩
        replace b2 := btrans bn b2
        replace hB := hB.keep b2
        replace hbel := btrans hbel b2
        go_wp2_with fail
        refine (writeString_any w.heap.size w.heap.size R ((((⟨#[63]⟩ : ByteArray) ++ (⟨#[32]⟩ : ByteArray)) ++ x) ++ (⟨#[10]⟩ : ByteArray)) w2 hB (by omega) hbel.size).mono ?_
        rintro e w3 ⟨rfl, hB3, b3⟩
        go_wp2_with fail
        go_roundw
        case rel => exact ⟨j + 1, by omega, by go_num, by rw [HT.out]; exact hB3, hbel.trans b3⟩
        case measure => simp [intOf]; omega
      · obtain ⟨k, rfl⟩ : ∃ k : Nat, c = (k : Int) := ⟨c.toNat, by omega⟩
        have hk : k < C.length := by omega
        have hch : chanB C (k : Int) = C[k].1 := chanB_in hk
        rw [hch] at HT s2 sc
        obtain ⟨bc, offc, rfl, hcell⟩ := hd k hk
        have hcn := cell_keep (cell_keep hcell hbel) bn
        generalize C[k].1 = nm at *
        have q1 : decide ((k : Int) < (C.length : Int)) = true := by simp; omega
        clear hcell
        rw [hWn] at hcn
        clear hd hch
        go_wp2_with fail
        rw [← hWn]
        clear hWn
        refine (kv.out Wn bn).mono ?_
        rintro e w2 ⟨rfl, b2⟩
        replace b2 := btrans bn b2
        replace hB := hB.keep b2
        replace hbel := btrans hbel b2
        go_wp2_with fail
        refine (writeString_any w.heap.size w.heap.size R (((nm ++ (⟨#[32]⟩ : ByteArray)) ++ x) ++ (⟨#[10]⟩ : ByteArray)) w2 hB (by omega) hbel.size).mono ?_
        rintro e w3 ⟨rfl, hB3, b3⟩
        go_wp2_with fail
        go_roundw
        case rel => exact ⟨j + 1, by omega, by go_num, by rw [HT.out]; exact hB3, hbel.trans b3⟩
        case measure => simp [intOf]; omega
    · have hjl : j = O.length := by omega
      subst hjl
      have HR : Hid (outsB C O = ⟨(outsL C (O.take O.length)).toArray⟩) := by show outsB C O = _; rw [List.take_of_length_le (Nat.le_refl _)]; rfl
      generalize outsL C (O.take O.length) = R at *
      go_wp2_with fail
      refine (string_any w.heap.size w.heap.size R wr hB hbel.size).mono ?_
      rintro e w3 ⟨rfl, _, b3⟩
      go_wp2_with fail
      go_ret
      exact ⟨by rw [HR.out]; rfl, hbel.trans b3⟩

set_option maxHeartbeats 1200000 in
set_option maxRecDepth 100000 in
theorem refOuts_any (w : World) (v u : Value) (C : List (ByteArray × Int)) (O : List (Int × Ent)) (hC : LiesC2 w v C) (hO : LiesO w u O) (gC : GoodC C) (gO : GoodO O) :
    Calls Tryd.prog 16 #[v, u] w fun e w' => e = .returned (.string (outsB C O)) ∧ Below w.heap.size w w' := by
  obtain ⟨h60, gO⟩ := gO
  obtain ⟨ao, cap, rfl, hc⟩ := hO
  obtain ⟨co, ccap, rfl, hd⟩ := hC
  go_enter Tryd.func16, Tryd.ntmps16
  go_wp2_with fail
  go_loopw [5, 6] (fun z i wr => ∃ j : Nat, j ≤ O.length ∧ i = .int .i64 j ∧ z = .string (outsB C (O.take j)) ∧ Below w.heap.size w wr) (fun _ i _ => O.length - (intOf i).toNat)
  case atStart => exact ⟨0, Nat.zero_le _, rfl, rfl, Below.refl _ _⟩
  case round =>
    obtain ⟨j, hj, rfl, rfl, hbel⟩ := hrel
    have s1 : (outsB C (O.take j)).size ≤ 200000000 := by
      have h3 := outsL_len gC (O := O.take j) (fun x hx => gO x (List.mem_of_mem_take hx))
      rw [size_of_list (outsB_data _ _)]
      rw [List.length_take] at h3
      omega
    by_cases h : j < O.length
    · obtain ⟨b, off, rfl, h1, h2, h3, h4⟩ := hc j h
      replace h1 := cell_keep h1 hbel
      replace h2 := cell_keep h2 hbel
      replace h3 := cell_keep h3 hbel
      replace h4 := cell_keep h4 hbel
      have hge := gO O[j] (List.getElem_mem h)
      have HT : Hid (outsB C (O.take (j + 1)) = (((outsB C (O.take j) ++ chanB C O[j].1) ++ (⟨#[32]⟩ : ByteArray)) ++ valE O[j].2) ++ (⟨#[10]⟩ : ByteArray)) := by
        show outsB C (O.take (j + 1)) = _
        rw [List.take_succ_eq_append_getElem h]
        refine toList_inj ?_
        rw [ByteArray.toList_eq, ByteArray.toList_eq, outsB_data, outsL_snoc, ← outsB_data, ← Array.toList_append, ← ByteArray.data_append]
        unfold outB
        simp only [ByteArray.append_assoc]
      have HE : Hid (valE O[j].2 = valB O[j].2.1 O[j].2.2.1 O[j].2.2.2) := rfl
      have sv : (valE O[j].2).size ≤ 3302 := valB_size hge.2.1 hge.1
      have sc := chanB_size gC O[j].1
      generalize outsB C (O.take j) = R at *
      generalize valE O[j].2 = x at *
      generalize O[j] = o at *
      obtain ⟨c, t, n, s⟩ := o
      dsimp only at h1 h2 h3 h4 hge HE HT sc
      have kv := refValue_any wr t n s (right_type hge.2.2) hge.2.1 (by have := hge.1; omega)
      rw [← HE.out] at kv
      clear hc hge
      by_cases hc0 : c < 0
      · have hch : chanB C c = ⟨#[63]⟩ := chanB_out (.inl hc0)
        rw [hch] at HT sc
        have q0 : decide (0 ≤ c) = false := by simp; omega
        clear hd hch
        go_wp2_with fail
        refine kv.mono ?_
        rintro e w2 ⟨rfl, b2⟩
        go_wp2_with fail
        go_roundw
        case rel => exact ⟨j + 1, by omega, by go_num, by rw [HT.out], btrans hbel b2⟩
        case measure => simp [intOf]; omega
      by_cases hc1 : (C.length : Int) ≤ c
      · have hch : chanB C c = ⟨#[63]⟩ := chanB_out (.inr hc1)
        rw [hch] at HT sc
        have q0 : decide (0 ≤ c) = true := by simp; omega
        have q1 : decide (c < (C.length : Int)) = false := by simp; omega
        clear hd hch
        go_wp2_with fail
        refine kv.mono ?_
        rintro e w2 ⟨rfl, b2⟩
        go_wp2_with fail
        go_roundw
        case rel => exact ⟨j + 1, by omega, by go_num, by rw [HT.out], btrans hbel b2⟩
        case measure => simp [intOf]; omega
      · obtain ⟨k, rfl⟩ : ∃ k : Nat, c = (k : Int) := ⟨c.toNat, by omega⟩
        have hk : k < C.length := by omega
        have hch : chanB C (k : Int) = C[k].1 := chanB_in hk
        rw [hch] at HT sc
        obtain ⟨bc, offc, rfl, hcell⟩ := hd k hk
        have hcn := cell_keep hcell hbel
        generalize C[k].1 = nm at *
        have q1 : decide ((k : Int) < (C.length : Int)) = true := by simp; omega
        clear hcell
        clear hd hch
        go_wp2_with fail
        refine kv.mono ?_
        rintro e w2 ⟨rfl, b2⟩
        go_wp2_with fail
        go_roundw
        case rel => exact ⟨j + 1, by omega, by go_num, by rw [HT.out], btrans hbel b2⟩
        case measure => simp [intOf]; omega
    · have hjl : j = O.length := by omega
      subst hjl
      have HR : Hid (outsB C O = outsB C (O.take O.length)) := by show outsB C O = _; rw [List.take_of_length_le (Nat.le_refl _)]
      generalize outsB C (O.take O.length) = R at *
      go_wp2_with fail
      go_ret
      exact ⟨by rw [HR.out]; rfl, hbel⟩

end Go.Proofs.YtcnbbmgclphfdaaDoor
