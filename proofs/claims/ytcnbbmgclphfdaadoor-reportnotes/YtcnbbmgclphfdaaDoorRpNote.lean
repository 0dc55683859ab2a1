/- Contracts of how a note is told, the document's and the program's. -/
import Derived.Test.YtcnbbmgclphfdaaDoorRpWhy2
import Derived.Test.YtcnbbmgclphfdaaDoorRpLine
namespace Go.Proofs.YtcnbbmgclphfdaaDoor
open Go.RowKit Go.Sort

def partW : List ByteArray := [⟨#[115, 99, 104, 101, 109, 97]⟩, ⟨#[115, 99, 114, 105, 112, 116]⟩, ⟨#[102, 108, 111, 119]⟩]
def partS (p : Int) : ByteArray := wordS partW p ⟨#[110, 111, 116, 101]⟩
/-- How a note is told, but for what stands at its end of Part 2. -/
def noteH (t : ByteArray) (p a e : Int) : ByteArray :=
  ((((((partS p ++ ⟨#[32]⟩) ++ decB ((lineS t a).1 : Int)) ++ ⟨#[58]⟩) ++ decB ((lineS t a).2 : Int)) ++ ⟨#[58, 32]⟩) ++ whyS e)
def noteS (s1 s2 : ByteArray) (p a e y : Int) : ByteArray :=
  noteH (if p = 0 then s1 else s2) p a e ++ (if p = 2 then wordS targetW y E0 else E0)
theorem noteH_alt (t : ByteArray) (p a e : Int) : ((partS p ++ ⟨#[32]⟩) ++ (((decB ((lineS t a).1 : Int) ++ ⟨#[58]⟩) ++ decB ((lineS t a).2 : Int)) ++ ⟨#[58, 32]⟩)) ++ whyS e = noteH t p a e := by
  unfold noteH
  simp only [ByteArray.append_assoc]
theorem append_E0 (s : ByteArray) : s ++ E0 = s := by
  apply ByteArray.ext; rw [ByteArray.data_append]; simp
theorem wordS_size {L : List ByteArray} {o : ByteArray} {n : Nat} (h : ∀ x ∈ L, x.size ≤ n) (ho : o.size ≤ n) (k : Int) : (wordS L k o).size ≤ n := by
  unfold wordS
  split
  · rename_i hk
    have hlt : k.toNat < L.length := by omega
    have he : L.getD k.toNat E0 = L[k.toNat] := by simp [hlt]
    rw [he]
    exact h _ (List.getElem_mem hlt)
  · exact ho
theorem partS_size (p : Int) : (partS p).size ≤ 6 := wordS_size (by decide) (by decide) p
theorem targetS_size (y : Int) : (wordS targetW y E0).size ≤ 7 := wordS_size (by decide) (by decide) y
theorem whyS_size {e : Int} (h0 : -9223372036854775808 ≤ e) (h1 : e ≤ 9223372036854775807) : (whyS e).size ≤ 27 := by
  refine wordS_size (by decide) ?_ e
  have := decB_size h0 h1
  rw [ByteArray.size_append]
  have h6 : (⟨#[101, 114, 114, 111, 114, 32]⟩ : ByteArray).size = 6 := rfl
  omega
theorem lineS_small {t : ByteArray} (ht : t.size ≤ 3000) (a : Int) : (lineS t a).1 ≤ 3001 ∧ (lineS t a).2 ≤ 3002 := by
  have h1 := lineC_le (t.data.toList.take (placeN t a))
  have h2 : (t.data.toList.take (placeN t a)).length ≤ 3000 := by
    rw [List.length_take]
    have : t.data.toList.length = t.size := by simp
    omega
  unfold lineS
  omega

set_option maxHeartbeats 4000000 in
set_option maxRecDepth 100000 in
theorem note_zero (w : World) (hG : Glob w) (s1 s2 : ByteArray) (zt : s1.size ≤ 3000) (p a n y : Int) (h0 : -9223372036854775808 ≤ n) (h1 : n ≤ 9223372036854775807) (hp0 : (p == 0) = true) (hp2 : (p == 2) = false) :
    Calls Tryd.prog 17 #[.string s1, .string s2, .agg #[.int .i64 p, .int .i64 a, .int .i64 n, .int .i64 y]] w fun e w' => e = .returned (.string (noteH s1 p a n)) ∧ Below w.heap.size w w' := by
  have HA : Hid (noteH s1 p a n = ((partS p ++ ⟨#[32]⟩) ++ (((decB ((lineS s1 a).1 : Int) ++ ⟨#[58]⟩) ++ decB ((lineS s1 a).2 : Int)) ++ ⟨#[58, 32]⟩)) ++ whyS n) := (noteH_alt s1 p a n).symm
  obtain ⟨W, hW⟩ : ∃ W, W = (w.alloc (.cells #[.int .i64 p, .int .i64 a, .int .i64 n, .int .i64 y] 40)).alloc (.cells (strC partW) 69) := ⟨_, rfl⟩
  have hl : LiesS W (.slice (some ⟨w.heap.size + 1, 0, none⟩) 3 3) partW := by
    have := strC_lies (w.alloc (.cells #[.int .i64 p, .int .i64 a, .int .i64 n, .int .i64 y] 40)) partW 69
    rw [← hW, show partW.length = 3 from rfl] at this
    simpa using this
  have bW : Below w.heap.size w W := by rw [hW]; exact ((Below.refl _ _).alloc (Nat.le_refl _) _).alloc (by simp) _
  have c0 : W.cell? ⟨w.heap.size, 0, none⟩ = some (.int .i64 p) := by rw [hW]; simp [go_sem]
  have c1 : W.cell? ⟨w.heap.size, 1, none⟩ = some (.int .i64 a) := by rw [hW]; simp [go_sem]
  have c2 : W.cell? ⟨w.heap.size, 2, none⟩ = some (.int .i64 n) := by rw [hW]; simp [go_sem]
  have c3 : W.cell? ⟨w.heap.size, 3, none⟩ = some (.int .i64 y) := by rw [hW]; simp [go_sem]
  have hGW := hG.keep bW
  have hln := lineS_small zt a
  have a1 := line_any W s1 (by omega) a
  have sw := whyS_size h0 h1
  have kW : Hid (∀ w0, Glob w0 → Calls Tryd.prog 19 #[.int .i64 n] w0 fun e w' => e = .returned (.string (whyS n)) ∧ Below w0.heap.size w0 w') := fun w0 g => why_any w0 g n h0 h1
  have kP : Hid (∀ w0, LiesS w0 (.slice (some ⟨w.heap.size + 1, 0, none⟩) 3 3) partW → Calls Tryd.prog 37 #[.slice (some ⟨w.heap.size + 1, 0, none⟩) 3 3, .int .i64 p, .string ⟨#[110, 111, 116, 101]⟩] w0 fun e w' => e = .returned (.string (partS p)) ∧ Below w0.heap.size w0 w') := fun w0 g => wordAt_any w0 _ _ g p _
  have sp := partS_size p
  generalize whyS n = YY at *
  generalize partS p = PP at *
  generalize lineS s1 a = ab at *
  obtain ⟨l1, l2⟩ := ab
  dsimp only at hln a1 HA
  have d1 : Hid (∀ w0, Glob w0 → Calls Tryd.prog 30 #[.int .i64 (l1 : Int)] w0 fun e w' => e = .returned (.string (decB (l1 : Int))) ∧ Below w0.heap.size w0 w') := fun w0 g => itoa_any w0 g l1 (by omega) (by omega)
  have d2 : Hid (∀ w0, Glob w0 → Calls Tryd.prog 30 #[.int .i64 (l2 : Int)] w0 fun e w' => e = .returned (.string (decB (l2 : Int))) ∧ Below w0.heap.size w0 w') := fun w0 g => itoa_any w0 g l2 (by omega) (by omega)
  have z1 := decB_size (n := (l1 : Int)) (by omega) (by omega)
  have z2 := decB_size (n := (l2 : Int)) (by omega) (by omega)
  clear hln h0 h1 zt hG
  generalize decB (l1 : Int) = D1 at *
  generalize decB (l2 : Int) = D2 at *
  have hal : Tryd.prog.arrayLen 69 = 3 := by kernel_rfl
  go_enter Tryd.func17, Tryd.ntmps17
  go_wp2_with (first
    | (refine wpList_buildC (strC partW) rfl 69 _ rfl (by kernel_rfl) ?_)
    | (refine wpList_storeC (strC partW) rfl 69 _ _ rfl _ _ rfl (by simp) rfl (by kernel_rfl) (by kernel_rfl) (by kernel_rfl) ?_))
  rw [← hW]
  clear hW
  refine a1.mono ?_
  rintro e w1 ⟨rfl, b1⟩
  replace hl := hl.keep b1
  replace c0 := cell_keep c0 b1
  replace c1 := cell_keep c1 b1
  replace c2 := cell_keep c2 b1
  replace c3 := cell_keep c3 b1
  replace hGW := hGW.keep b1
  replace bW := btrans bW b1
  clear a1 b1
  go_wp2_with fail
  refine (d1.out w1 hGW).mono ?_
  rintro e w2 ⟨rfl, b1⟩
  replace hl := hl.keep b1
  replace c0 := cell_keep c0 b1
  replace c1 := cell_keep c1 b1
  replace c2 := cell_keep c2 b1
  replace c3 := cell_keep c3 b1
  replace hGW := hGW.keep b1
  replace bW := btrans bW b1
  clear d1 b1
  go_wp2_with fail
  refine (d2.out w2 hGW).mono ?_
  rintro e w3 ⟨rfl, b1⟩
  replace hl := hl.keep b1
  replace c0 := cell_keep c0 b1
  replace c1 := cell_keep c1 b1
  replace c2 := cell_keep c2 b1
  replace c3 := cell_keep c3 b1
  replace hGW := hGW.keep b1
  replace bW := btrans bW b1
  clear d2 b1
  go_wp2_with fail
  have k1 : Hid (∀ d os, Calls Tryd.prog 19 #[.int .i64 n] (grow (redrawn w3 d) os) fun e w' => e = .returned (.string YY) ∧ Below (grow (redrawn w3 d) os).heap.size (grow (redrawn w3 d) os) w') := fun d os => kW.out _ (hGW.keep (below_regrown ..))
  have k2 : Hid (∀ d os, Calls Tryd.prog 37 #[.slice (some ⟨w.heap.size + 1, 0, none⟩) 3 3, .int .i64 p, .string ⟨#[110, 111, 116, 101]⟩] (grow (redrawn w3 d) os) fun e w' => e = .returned (.string PP) ∧ Below (grow (redrawn w3 d) os).heap.size (grow (redrawn w3 d) os) w') := fun d os => kP.out _ (hl.keep (below_regrown ..))
  have g0 : ∀ d os, (grow (redrawn w3 d) os).cell? ⟨w.heap.size, 0, none⟩ = some (.int .i64 p) := fun d os => cell_regrown c0 d os
  have g2 : ∀ d os, (grow (redrawn w3 d) os).cell? ⟨w.heap.size, 2, none⟩ = some (.int .i64 n) := fun d os => cell_regrown c2 d os
  clear kW kP hl hGW
  refine wp_region_quiet_below (by kernel_rfl) (by kernel_rfl) ?_
  repeat (first | go_big_quiet_step (first | exact Calls.regrown_of (k1.out _ _) | exact Calls.regrown_of (k2.out _ _)) | quiet_step (first | exact Calls.regrown_of (k1.out _ _) | exact Calls.regrown_of (k2.out _ _)))
  refine wpQuiet_nil ?_
  rintro _ ⟨⟨dq, osq⟩, rfl⟩
  have hb := below_regrown w3 dq osq
  clear g0 g2 k1 k2
  generalize grow (redrawn w3 dq) osq = w4 at hb ⊢
  replace c0 := cell_keep c0 hb
  replace c3 := cell_keep c3 hb
  replace bW := btrans bW hb
  clear c1 c2 hb
  go_wp2_with fail
  go_ret
  exact ⟨by rw [HA.out]; rfl, bW⟩

set_option maxHeartbeats 4000000 in
set_option maxRecDepth 100000 in
theorem note_two (w : World) (hG : Glob w) (s1 s2 : ByteArray) (zt : s2.size ≤ 3000) (p a n y : Int) (h0 : -9223372036854775808 ≤ n) (h1 : n ≤ 9223372036854775807) (hp0 : (p == 0) = false) (hp2 : (p == 2) = true) :
    Calls Tryd.prog 17 #[.string s1, .string s2, .agg #[.int .i64 p, .int .i64 a, .int .i64 n, .int .i64 y]] w fun e w' => e = .returned (.string (noteH s2 p a n ++ wordS targetW y E0)) ∧ Below w.heap.size w w' := by
  have HA : Hid (noteH s2 p a n = ((partS p ++ ⟨#[32]⟩) ++ (((decB ((lineS s2 a).1 : Int) ++ ⟨#[58]⟩) ++ decB ((lineS s2 a).2 : Int)) ++ ⟨#[58, 32]⟩)) ++ whyS n) := (noteH_alt s2 p a n).symm
  obtain ⟨W, hW⟩ : ∃ W, W = (w.alloc (.cells #[.int .i64 p, .int .i64 a, .int .i64 n, .int .i64 y] 40)).alloc (.cells (strC partW) 69) := ⟨_, rfl⟩
  have hl : LiesS W (.slice (some ⟨w.heap.size + 1, 0, none⟩) 3 3) partW := by
    have := strC_lies (w.alloc (.cells #[.int .i64 p, .int .i64 a, .int .i64 n, .int .i64 y] 40)) partW 69
    rw [← hW, show partW.length = 3 from rfl] at this
    simpa using this
  have bW : Below w.heap.size w W := by rw [hW]; exact ((Below.refl _ _).alloc (Nat.le_refl _) _).alloc (by simp) _
  have c0 : W.cell? ⟨w.heap.size, 0, none⟩ = some (.int .i64 p) := by rw [hW]; simp [go_sem]
  have c1 : W.cell? ⟨w.heap.size, 1, none⟩ = some (.int .i64 a) := by rw [hW]; simp [go_sem]
  have c2 : W.cell? ⟨w.heap.size, 2, none⟩ = some (.int .i64 n) := by rw [hW]; simp [go_sem]
  have c3 : W.cell? ⟨w.heap.size, 3, none⟩ = some (.int .i64 y) := by rw [hW]; simp [go_sem]
  have hGW := hG.keep bW
  have hln := lineS_small zt a
  have a1 := line_any W s2 (by omega) a
  have sw := whyS_size h0 h1
  have kW : Hid (∀ w0, Glob w0 → Calls Tryd.prog 19 #[.int .i64 n] w0 fun e w' => e = .returned (.string (whyS n)) ∧ Below w0.heap.size w0 w') := fun w0 g => why_any w0 g n h0 h1
  have kP : Hid (∀ w0, LiesS w0 (.slice (some ⟨w.heap.size + 1, 0, none⟩) 3 3) partW → Calls Tryd.prog 37 #[.slice (some ⟨w.heap.size + 1, 0, none⟩) 3 3, .int .i64 p, .string ⟨#[110, 111, 116, 101]⟩] w0 fun e w' => e = .returned (.string (partS p)) ∧ Below w0.heap.size w0 w') := fun w0 g => wordAt_any w0 _ _ g p _
  have sp := partS_size p
  generalize whyS n = YY at *
  generalize partS p = PP at *
  generalize lineS s2 a = ab at *
  obtain ⟨l1, l2⟩ := ab
  dsimp only at hln a1 HA
  have d1 : Hid (∀ w0, Glob w0 → Calls Tryd.prog 30 #[.int .i64 (l1 : Int)] w0 fun e w' => e = .returned (.string (decB (l1 : Int))) ∧ Below w0.heap.size w0 w') := fun w0 g => itoa_any w0 g l1 (by omega) (by omega)
  have d2 : Hid (∀ w0, Glob w0 → Calls Tryd.prog 30 #[.int .i64 (l2 : Int)] w0 fun e w' => e = .returned (.string (decB (l2 : Int))) ∧ Below w0.heap.size w0 w') := fun w0 g => itoa_any w0 g l2 (by omega) (by omega)
  have z1 := decB_size (n := (l1 : Int)) (by omega) (by omega)
  have z2 := decB_size (n := (l2 : Int)) (by omega) (by omega)
  clear hln h0 h1 zt hG
  generalize decB (l1 : Int) = D1 at *
  generalize decB (l2 : Int) = D2 at *
  have hal : Tryd.prog.arrayLen 69 = 3 := by kernel_rfl
  go_enter Tryd.func17, Tryd.ntmps17
  go_wp2_with (first
    | (refine wpList_buildC (strC partW) rfl 69 _ rfl (by kernel_rfl) ?_)
    | (refine wpList_storeC (strC partW) rfl 69 _ _ rfl _ _ rfl (by simp) rfl (by kernel_rfl) (by kernel_rfl) (by kernel_rfl) ?_))
  rw [← hW]
  clear hW
  refine a1.mono ?_
  rintro e w1 ⟨rfl, b1⟩
  replace hl := hl.keep b1
  replace c0 := cell_keep c0 b1
  replace c1 := cell_keep c1 b1
  replace c2 := cell_keep c2 b1
  replace c3 := cell_keep c3 b1
  replace hGW := hGW.keep b1
  replace bW := btrans bW b1
  clear a1 b1
  go_wp2_with fail
  refine (d1.out w1 hGW).mono ?_
  rintro e w2 ⟨rfl, b1⟩
  replace hl := hl.keep b1
  replace c0 := cell_keep c0 b1
  replace c1 := cell_keep c1 b1
  replace c2 := cell_keep c2 b1
  replace c3 := cell_keep c3 b1
  replace hGW := hGW.keep b1
  replace bW := btrans bW b1
  clear d1 b1
  go_wp2_with fail
  refine (d2.out w2 hGW).mono ?_
  rintro e w3 ⟨rfl, b1⟩
  replace hl := hl.keep b1
  replace c0 := cell_keep c0 b1
  replace c1 := cell_keep c1 b1
  replace c2 := cell_keep c2 b1
  replace c3 := cell_keep c3 b1
  replace hGW := hGW.keep b1
  replace bW := btrans bW b1
  clear d2 b1
  go_wp2_with fail
  have k1 : Hid (∀ d os, Calls Tryd.prog 19 #[.int .i64 n] (grow (redrawn w3 d) os) fun e w' => e = .returned (.string YY) ∧ Below (grow (redrawn w3 d) os).heap.size (grow (redrawn w3 d) os) w') := fun d os => kW.out _ (hGW.keep (below_regrown ..))
  have k2 : Hid (∀ d os, Calls Tryd.prog 37 #[.slice (some ⟨w.heap.size + 1, 0, none⟩) 3 3, .int .i64 p, .string ⟨#[110, 111, 116, 101]⟩] (grow (redrawn w3 d) os) fun e w' => e = .returned (.string PP) ∧ Below (grow (redrawn w3 d) os).heap.size (grow (redrawn w3 d) os) w') := fun d os => kP.out _ (hl.keep (below_regrown ..))
  have g0 : ∀ d os, (grow (redrawn w3 d) os).cell? ⟨w.heap.size, 0, none⟩ = some (.int .i64 p) := fun d os => cell_regrown c0 d os
  have g2 : ∀ d os, (grow (redrawn w3 d) os).cell? ⟨w.heap.size, 2, none⟩ = some (.int .i64 n) := fun d os => cell_regrown c2 d os
  clear kW kP hl hGW
  refine wp_region_quiet_below (by kernel_rfl) (by kernel_rfl) ?_
  repeat (first | go_big_quiet_step (first | exact Calls.regrown_of (k1.out _ _) | exact Calls.regrown_of (k2.out _ _)) | quiet_step (first | exact Calls.regrown_of (k1.out _ _) | exact Calls.regrown_of (k2.out _ _)))
  refine wpQuiet_nil ?_
  rintro _ ⟨⟨dq, osq⟩, rfl⟩
  have hb := below_regrown w3 dq osq
  clear g0 g2 k1 k2
  generalize grow (redrawn w3 dq) osq = w4 at hb ⊢
  replace c0 := cell_keep c0 hb
  replace c3 := cell_keep c3 hb
  replace bW := btrans bW hb
  clear c1 c2 hb
  have st := targetS_size y
  have kt := target_any w4 y
  obtain ⟨TT, HT⟩ : ∃ TT, Hid (TT = wordS targetW y E0) := ⟨_, rfl⟩
  rw [← HT.out] at st kt
  go_wp2_with fail
  refine kt.mono ?_
  rintro e w5 ⟨rfl, b5⟩
  go_wp2_with fail
  go_ret
  exact ⟨by rw [HA.out, ← HT.out]; rfl, btrans bW b5⟩

set_option maxHeartbeats 4000000 in
set_option maxRecDepth 100000 in
theorem note_else (w : World) (hG : Glob w) (s1 s2 : ByteArray) (zt : s2.size ≤ 3000) (p a n y : Int) (h0 : -9223372036854775808 ≤ n) (h1 : n ≤ 9223372036854775807) (hp0 : (p == 0) = false) (hp2 : (p == 2) = false) :
    Calls Tryd.prog 17 #[.string s1, .string s2, .agg #[.int .i64 p, .int .i64 a, .int .i64 n, .int .i64 y]] w fun e w' => e = .returned (.string (noteH s2 p a n)) ∧ Below w.heap.size w w' := by
  have HA : Hid (noteH s2 p a n = ((partS p ++ ⟨#[32]⟩) ++ (((decB ((lineS s2 a).1 : Int) ++ ⟨#[58]⟩) ++ decB ((lineS s2 a).2 : Int)) ++ ⟨#[58, 32]⟩)) ++ whyS n) := (noteH_alt s2 p a n).symm
  obtain ⟨W, hW⟩ : ∃ W, W = (w.alloc (.cells #[.int .i64 p, .int .i64 a, .int .i64 n, .int .i64 y] 40)).alloc (.cells (strC partW) 69) := ⟨_, rfl⟩
  have hl : LiesS W (.slice (some ⟨w.heap.size + 1, 0, none⟩) 3 3) partW := by
    have := strC_lies (w.alloc (.cells #[.int .i64 p, .int .i64 a, .int .i64 n, .int .i64 y] 40)) partW 69
    rw [← hW, show partW.length = 3 from rfl] at this
    simpa using this
  have bW : Below w.heap.size w W := by rw [hW]; exact ((Below.refl _ _).alloc (Nat.le_refl _) _).alloc (by simp) _
  have c0 : W.cell? ⟨w.heap.size, 0, none⟩ = some (.int .i64 p) := by rw [hW]; simp [go_sem]
  have c1 : W.cell? ⟨w.heap.size, 1, none⟩ = some (.int .i64 a) := by rw [hW]; simp [go_sem]
  have c2 : W.cell? ⟨w.heap.size, 2, none⟩ = some (.int .i64 n) := by rw [hW]; simp [go_sem]
  have c3 : W.cell? ⟨w.heap.size, 3, none⟩ = some (.int .i64 y) := by rw [hW]; simp [go_sem]
  have hGW := hG.keep bW
  have hln := lineS_small zt a
  have a1 := line_any W s2 (by omega) a
  have sw := whyS_size h0 h1
  have kW : Hid (∀ w0, Glob w0 → Calls Tryd.prog 19 #[.int .i64 n] w0 fun e w' => e = .returned (.string (whyS n)) ∧ Below w0.heap.size w0 w') := fun w0 g => why_any w0 g n h0 h1
  have kP : Hid (∀ w0, LiesS w0 (.slice (some ⟨w.heap.size + 1, 0, none⟩) 3 3) partW → Calls Tryd.prog 37 #[.slice (some ⟨w.heap.size + 1, 0, none⟩) 3 3, .int .i64 p, .string ⟨#[110, 111, 116, 101]⟩] w0 fun e w' => e = .returned (.string (partS p)) ∧ Below w0.heap.size w0 w') := fun w0 g => wordAt_any w0 _ _ g p _
  have sp := partS_size p
  generalize whyS n = YY at *
  generalize partS p = PP at *
  generalize lineS s2 a = ab at *
  obtain ⟨l1, l2⟩ := ab
  dsimp only at hln a1 HA
  have d1 : Hid (∀ w0, Glob w0 → Calls Tryd.prog 30 #[.int .i64 (l1 : Int)] w0 fun e w' => e = .returned (.string (decB (l1 : Int))) ∧ Below w0.heap.size w0 w') := fun w0 g => itoa_any w0 g l1 (by omega) (by omega)
  have d2 : Hid (∀ w0, Glob w0 → Calls Tryd.prog 30 #[.int .i64 (l2 : Int)] w0 fun e w' => e = .returned (.string (decB (l2 : Int))) ∧ Below w0.heap.size w0 w') := fun w0 g => itoa_any w0 g l2 (by omega) (by omega)
  have z1 := decB_size (n := (l1 : Int)) (by omega) (by omega)
  have z2 := decB_size (n := (l2 : Int)) (by omega) (by omega)
  clear hln h0 h1 zt hG
  generalize decB (l1 : Int) = D1 at *
  generalize decB (l2 : Int) = D2 at *
  have hal : Tryd.prog.arrayLen 69 = 3 := by kernel_rfl
  go_enter Tryd.func17, Tryd.ntmps17
  go_wp2_with (first
    | (refine wpList_buildC (strC partW) rfl 69 _ rfl (by kernel_rfl) ?_)
    | (refine wpList_storeC (strC partW) rfl 69 _ _ rfl _ _ rfl (by simp) rfl (by kernel_rfl) (by kernel_rfl) (by kernel_rfl) ?_))
  rw [← hW]
  clear hW
  refine a1.mono ?_
  rintro e w1 ⟨rfl, b1⟩
  replace hl := hl.keep b1
  replace c0 := cell_keep c0 b1
  replace c1 := cell_keep c1 b1
  replace c2 := cell_keep c2 b1
  replace c3 := cell_keep c3 b1
  replace hGW := hGW.keep b1
  replace bW := btrans bW b1
  clear a1 b1
  go_wp2_with fail
  refine (d1.out w1 hGW).mono ?_
  rintro e w2 ⟨rfl, b1⟩
  replace hl := hl.keep b1
  replace c0 := cell_keep c0 b1
  replace c1 := cell_keep c1 b1
  replace c2 := cell_keep c2 b1
  replace c3 := cell_keep c3 b1
  replace hGW := hGW.keep b1
  replace bW := btrans bW b1
  clear d1 b1
  go_wp2_with fail
  refine (d2.out w2 hGW).mono ?_
  rintro e w3 ⟨rfl, b1⟩
  replace hl := hl.keep b1
  replace c0 := cell_keep c0 b1
  replace c1 := cell_keep c1 b1
  replace c2 := cell_keep c2 b1
  replace c3 := cell_keep c3 b1
  replace hGW := hGW.keep b1
  replace bW := btrans bW b1
  clear d2 b1
  go_wp2_with fail
  have k1 : Hid (∀ d os, Calls Tryd.prog 19 #[.int .i64 n] (grow (redrawn w3 d) os) fun e w' => e = .returned (.string YY) ∧ Below (grow (redrawn w3 d) os).heap.size (grow (redrawn w3 d) os) w') := fun d os => kW.out _ (hGW.keep (below_regrown ..))
  have k2 : Hid (∀ d os, Calls Tryd.prog 37 #[.slice (some ⟨w.heap.size + 1, 0, none⟩) 3 3, .int .i64 p, .string ⟨#[110, 111, 116, 101]⟩] (grow (redrawn w3 d) os) fun e w' => e = .returned (.string PP) ∧ Below (grow (redrawn w3 d) os).heap.size (grow (redrawn w3 d) os) w') := fun d os => kP.out _ (hl.keep (below_regrown ..))
  have g0 : ∀ d os, (grow (redrawn w3 d) os).cell? ⟨w.heap.size, 0, none⟩ = some (.int .i64 p) := fun d os => cell_regrown c0 d os
  have g2 : ∀ d os, (grow (redrawn w3 d) os).cell? ⟨w.heap.size, 2, none⟩ = some (.int .i64 n) := fun d os => cell_regrown c2 d os
  clear kW kP hl hGW
  refine wp_region_quiet_below (by kernel_rfl) (by kernel_rfl) ?_
  repeat (first | go_big_quiet_step (first | exact Calls.regrown_of (k1.out _ _) | exact Calls.regrown_of (k2.out _ _)) | quiet_step (first | exact Calls.regrown_of (k1.out _ _) | exact Calls.regrown_of (k2.out _ _)))
  refine wpQuiet_nil ?_
  rintro _ ⟨⟨dq, osq⟩, rfl⟩
  have hb := below_regrown w3 dq osq
  clear g0 g2 k1 k2
  generalize grow (redrawn w3 dq) osq = w4 at hb ⊢
  replace c0 := cell_keep c0 hb
  replace c3 := cell_keep c3 hb
  replace bW := btrans bW hb
  clear c1 c2 hb
  go_wp2_with fail
  go_ret
  exact ⟨by rw [HA.out]; rfl, bW⟩

theorem note_any (w : World) (hG : Glob w) (s1 s2 : ByteArray) (z1 : s1.size ≤ 3000) (z2 : s2.size ≤ 3000) (p a n y : Int) (h0 : -9223372036854775808 ≤ n) (h1 : n ≤ 9223372036854775807) :
    Calls Tryd.prog 17 #[.string s1, .string s2, .agg #[.int .i64 p, .int .i64 a, .int .i64 n, .int .i64 y]] w fun e w' => e = .returned (.string (noteS s1 s2 p a n y)) ∧ Below w.heap.size w w' := by
  unfold noteS
  by_cases hp : p = 0
  · subst hp
    rw [if_pos rfl, if_neg (by decide), append_E0]
    exact note_zero w hG s1 s2 z1 0 a n y h0 h1 rfl rfl
  by_cases hq : p = 2
  · subst hq
    rw [if_neg hp, if_pos rfl]
    exact note_two w hG s1 s2 z2 2 a n y h0 h1 rfl rfl
  · rw [if_neg hp, if_neg hq, append_E0]
    exact note_else w hG s1 s2 z2 p a n y h0 h1 (by simpa using hp) (by simpa using hq)

end Go.Proofs.YtcnbbmgclphfdaaDoor
