/- The document's order of keys. -/
import Derived.Test.YtalfeggddfpgeaaDoorRwCmp
import Derived.Test.YtalfeggddfpgeaaDoorOrdRef
namespace Go.Proofs.YtalfeggddfpgeaaDoor
open Go.RowKit Go.Sort

set_option maxRecDepth 100000 in
set_option maxHeartbeats 8000000 in
theorem refOrdK_any (w : World) (v u vd : Value) (a b : Row) (d : List Bool) (hv : Lies w v a) (hu : Lies w u b) (hd : LiesB w vd d) (la : a.length ≤ 60) (_ : b.length ≤ 60) (fa : Fair a) (fb : Fair b) :
    Calls Tryd.prog 10 #[v, u, vd] w fun e w' => e = .returned (.int .i64 (ordK a b d)) ∧ Below w.heap.size w w' := by
  obtain ⟨ao, ac, rfl, hac⟩ := hv
  obtain ⟨bo, bc, rfl, hbc⟩ := hu
  obtain ⟨dn, dc, rfl, _, hdc⟩ := hd
  simp only [List.length_map, List.getElem_map] at hdc ⊢
  have HAC : Aside _ := hac
  have HBC : Aside _ := hbc
  have HDC : Aside _ := hdc
  clear hac hbc hdc
  go_enter Tryd.func10, Tryd.ntmps10
  go_wp2_with fail
  go_loopw [7] (fun i wr => ∃ k : Nat, k ≤ 60 ∧ i = .int .i64 k ∧ Below w.heap.size w wr ∧ ordK a b d = ordK (a.drop k) (b.drop k) (d.drop k)) (fun i _ => 61 - (intOf i).toNat)
  case atStart => exact ⟨0, Nat.zero_le _, rfl, Below.refl _ _, by simp⟩
  case round =>
    obtain ⟨k, hk60, rfl, hbel, ho⟩ := hrel
    have HO : Hid (ordK a b d = ordK (a.drop k) (b.drop k) (d.drop k)) := ho
    clear ho
    by_cases ka : k < a.length
    · have g1 : decide ((k : Int) < (a.length : Int)) = true := by simp; omega
      have g2 : decide ((a.length : Int) ≤ (k : Int)) = false := by simp; omega
      by_cases kb : k < b.length
      · skip
        have g3 : decide ((b.length : Int) ≤ (k : Int)) = false := by simp; omega
        have hka : k < a.length := by omega
        have hkb : k < b.length := by omega
        have HE0 : Hid (ordAt a b k = ordE a[k] b[k]) := by show _ = _; unfold ordAt; rw [if_neg (by omega), if_neg (by omega)]; simp [List.getD, hka, hkb]
        have hfa := (fa _ (List.getElem_mem hka)).1
        have hfb := (fb _ (List.getElem_mem hkb)).1
        obtain ⟨pb, pof, rfl, x1, x2, x3⟩ := lie_at HAC.out hbel hka
        obtain ⟨qb, qof, rfl, y1, y2, y3⟩ := lie_at HBC.out hbel hkb
        generalize a[k] = en at HE0 x1 x2 x3 hfa
        generalize b[k] = em at HE0 y1 y2 y3 hfb
        obtain ⟨t, nn, s⟩ := en
        obtain ⟨t', nn', s'⟩ := em
        simp only at x1 x2 x3 y1 y2 y3 hfa hfb
        have xx1 : ∀ d os, (grow (redrawn wr d) os).cell? ⟨pb, pof + k * 3, none⟩ = some (.int .i64 t) := fun d os => cell_regrown x1 d os
        have xx2 : ∀ d os, (grow (redrawn wr d) os).cell? ⟨pb, pof + k * 3 + 1, none⟩ = some (.int .i64 nn) := fun d os => cell_regrown x2 d os
        have xx3 : ∀ d os, (grow (redrawn wr d) os).cell? ⟨pb, pof + k * 3 + 2, none⟩ = some (.string s) := fun d os => cell_regrown x3 d os
        have yy1 : ∀ d os, (grow (redrawn wr d) os).cell? ⟨qb, qof + k * 3, none⟩ = some (.int .i64 t') := fun d os => cell_regrown y1 d os
        have yy2 : ∀ d os, (grow (redrawn wr d) os).cell? ⟨qb, qof + k * 3 + 1, none⟩ = some (.int .i64 nn') := fun d os => cell_regrown y2 d os
        have yy3 : ∀ d os, (grow (redrawn wr d) os).cell? ⟨qb, qof + k * 3 + 2, none⟩ = some (.string s') := fun d os => cell_regrown y3 d os
        have q0 : (0 : Int) ≤ (k : Int) := by omega
        have q1 : (k : Int) < (a.length : Int) := by omega
        have q2 : (k : Int) < (b.length : Int) := by omega
        have hcall : Aside (∀ dd os, Calls Tryd.prog 20 #[V t nn s, V t' nn' s'] (grow (redrawn wr dd) os) fun e w' => e = .returned (.int .i64 (ordV t nn s t' nn' s')) ∧ Below (grow (redrawn wr dd) os).heap.size (grow (redrawn wr dd) os) w') := fun dd os => refOrder_any t nn s t' nn' s' (by omega) (by omega) _
        have HE1 : Hid (ordAt a b k = ordV t nn s t' nn' s') := HE0.out
        have hov := ordAt_range a b k
        rw [HE1.out] at hov
        clear HE0
        generalize ordV t nn s t' nn' s' = o at hcall HE1 hov
        have hwo : IntKind.i64.wrap (-o) = -o := by rw [IntKind.wrap_i64]; omega
        by_cases hz : o = 0
        · subst hz
          have HE : Hid (ordAt a b k = 0) := HE1.out
          by_cases hkd : k < d.length
          · have hkdb : decide ((k : Int) < (d.length : Int)) = true := by simp; omega
            obtain ⟨db, dof, rfl, hcell⟩ := HDC.out k hkd
            have hgd : d.getD k false = d[k] := by simp [List.getD, hkd]
            have hcell' := cell_keep hcell hbel
            clear hcell
            have j0 : (0 : Int) ≤ (k : Int) := by omega
            have j1 : (k : Int) < (d.length : Int) := by omega
            generalize d[k] = dk at hcell' hgd
            cases dk
            · skip
              have OV : Aside (ordK a b d = ordK (a.drop (k + 1)) (b.drop (k + 1)) (d.drop (k + 1))) := by show _ = _; rw [HO.out]; exact ordAt_zero (by rw [HE.out])
              go_wp2_with fail
              refine wp_region_quiet_below (by kernel_rfl) (by kernel_rfl) ?_
              repeat (first | go_big_quiet_step (exact Calls.regrown_of (hcall.out _ _)) | quiet_step (exact Calls.regrown_of (hcall.out _ _)))
              refine wpQuiet_nil ?_
              rintro _ ⟨⟨dq, osq⟩, rfl⟩
              have hb := below_regrown wr dq osq
              generalize grow (redrawn wr dq) osq = w4 at hb ⊢
              have hb4 := btrans hbel hb
              try have hc4 := cell_keep hcell' hb
              go_wp2_with fail
              go_roundw
              case rel => exact ⟨k + 1, by omega, by go_num, hb4, OV.out⟩
              case measure => simp [intOf]; omega
            · skip
              have OV : Aside (ordK a b d = ordK (a.drop (k + 1)) (b.drop (k + 1)) (d.drop (k + 1))) := by show _ = _; rw [HO.out]; exact ordAt_zero (by rw [HE.out])
              go_wp2_with fail
              refine wp_region_quiet_below (by kernel_rfl) (by kernel_rfl) ?_
              repeat (first | go_big_quiet_step (exact Calls.regrown_of (hcall.out _ _)) | quiet_step (exact Calls.regrown_of (hcall.out _ _)))
              refine wpQuiet_nil ?_
              rintro _ ⟨⟨dq, osq⟩, rfl⟩
              have hb := below_regrown wr dq osq
              generalize grow (redrawn wr dq) osq = w4 at hb ⊢
              have hb4 := btrans hbel hb
              try have hc4 := cell_keep hcell' hb
              go_wp2_with fail
              go_roundw
              case rel => exact ⟨k + 1, by omega, by go_num, hb4, OV.out⟩
              case measure => simp [intOf]; omega
          · have hkdb : decide ((k : Int) < (d.length : Int)) = false := by simp; omega
            have hgd : d.getD k false = false := by simp [List.getD, List.getElem?_eq_none (Nat.le_of_not_lt hkd)]
            have OV : Aside (ordK a b d = ordK (a.drop (k + 1)) (b.drop (k + 1)) (d.drop (k + 1))) := by show _ = _; rw [HO.out]; exact ordAt_zero (by rw [HE.out])
            go_wp2_with fail
            refine wp_region_quiet_below (by kernel_rfl) (by kernel_rfl) ?_
            repeat (first | go_big_quiet_step (exact Calls.regrown_of (hcall.out _ _)) | quiet_step (exact Calls.regrown_of (hcall.out _ _)))
            refine wpQuiet_nil ?_
            rintro _ ⟨⟨dq, osq⟩, rfl⟩
            have hb := below_regrown wr dq osq
            generalize grow (redrawn wr dq) osq = w4 at hb ⊢
            have hb4 := btrans hbel hb
            try have hc4 := cell_keep hcell' hb
            go_wp2_with fail
            go_roundw
            case rel => exact ⟨k + 1, by omega, by go_num, hb4, OV.out⟩
            case measure => simp [intOf]; omega
        · have hzb : (o != 0) = true := by simpa using hz
          have hzn : (-o != 0) = true := by simp; omega
          have HE : Hid (ordAt a b k = o) := HE1.out
          by_cases hkd : k < d.length
          · have hkdb : decide ((k : Int) < (d.length : Int)) = true := by simp; omega
            obtain ⟨db, dof, rfl, hcell⟩ := HDC.out k hkd
            have hgd : d.getD k false = d[k] := by simp [List.getD, hkd]
            have hcell' := cell_keep hcell hbel
            clear hcell
            have j0 : (0 : Int) ≤ (k : Int) := by omega
            have j1 : (k : Int) < (d.length : Int) := by omega
            generalize d[k] = dk at hcell' hgd
            cases dk
            · skip
              have OV : Aside (ordK (a.drop k) (b.drop k) (d.drop k) = o) := by show _ = _; rw [ordAt_ne (by omega) (by rw [HE.out]; exact hz), flipD, headD_drop, HE.out, hgd]; rfl
              go_wp2_with fail
              refine wp_region_quiet_below (by kernel_rfl) (by kernel_rfl) ?_
              repeat (first | go_big_quiet_step (exact Calls.regrown_of (hcall.out _ _)) | quiet_step (exact Calls.regrown_of (hcall.out _ _)))
              refine wpQuiet_nil ?_
              rintro _ ⟨⟨dq, osq⟩, rfl⟩
              have hb := below_regrown wr dq osq
              generalize grow (redrawn wr dq) osq = w4 at hb ⊢
              have hb4 := btrans hbel hb
              try have hc4 := cell_keep hcell' hb
              go_wp2_with fail
              go_ret
              exact ⟨by rw [HO.out, OV.out]; first | rfl | simp, hb4⟩
            · skip
              have OV : Aside (ordK (a.drop k) (b.drop k) (d.drop k) = -o) := by show _ = _; rw [ordAt_ne (by omega) (by rw [HE.out]; exact hz), flipD, headD_drop, HE.out, hgd]; rfl
              go_wp2_with fail
              refine wp_region_quiet_below (by kernel_rfl) (by kernel_rfl) ?_
              repeat (first | go_big_quiet_step (exact Calls.regrown_of (hcall.out _ _)) | quiet_step (exact Calls.regrown_of (hcall.out _ _)))
              refine wpQuiet_nil ?_
              rintro _ ⟨⟨dq, osq⟩, rfl⟩
              have hb := below_regrown wr dq osq
              generalize grow (redrawn wr dq) osq = w4 at hb ⊢
              have hb4 := btrans hbel hb
              try have hc4 := cell_keep hcell' hb
              go_wp2_with fail
              go_ret
              exact ⟨by rw [HO.out, OV.out]; first | rfl | simp, hb4⟩
          · have hkdb : decide ((k : Int) < (d.length : Int)) = false := by simp; omega
            have hgd : d.getD k false = false := by simp [List.getD, List.getElem?_eq_none (Nat.le_of_not_lt hkd)]
            have OV : Aside (ordK (a.drop k) (b.drop k) (d.drop k) = o) := by show _ = _; rw [ordAt_ne (by omega) (by rw [HE.out]; exact hz), flipD, headD_drop, HE.out, hgd]; rfl
            go_wp2_with fail
            refine wp_region_quiet_below (by kernel_rfl) (by kernel_rfl) ?_
            repeat (first | go_big_quiet_step (exact Calls.regrown_of (hcall.out _ _)) | quiet_step (exact Calls.regrown_of (hcall.out _ _)))
            refine wpQuiet_nil ?_
            rintro _ ⟨⟨dq, osq⟩, rfl⟩
            have hb := below_regrown wr dq osq
            generalize grow (redrawn wr dq) osq = w4 at hb ⊢
            have hb4 := btrans hbel hb
            try have hc4 := cell_keep hcell' hb
            go_wp2_with fail
            go_ret
            exact ⟨by rw [HO.out, OV.out]; first | rfl | simp, hb4⟩
      · skip
        have g3 : decide ((b.length : Int) ≤ (k : Int)) = true := by simp; omega
        have HE : Hid (ordAt a b k = 1) := by show _ = _; unfold ordAt; rw [if_neg (by omega), if_pos (by omega)]
        by_cases hkd : k < d.length
        · have hkdb : decide ((k : Int) < (d.length : Int)) = true := by simp; omega
          obtain ⟨db, dof, rfl, hcell⟩ := HDC.out k hkd
          have hgd : d.getD k false = d[k] := by simp [List.getD, hkd]
          have hcell' := cell_keep hcell hbel
          clear hcell
          have j0 : (0 : Int) ≤ (k : Int) := by omega
          have j1 : (k : Int) < (d.length : Int) := by omega
          generalize d[k] = dk at hcell' hgd
          cases dk
          · skip
            have OV : Aside (ordK (a.drop k) (b.drop k) (d.drop k) = 1) := by show _ = _; rw [ordAt_ne (by omega) (by rw [HE.out]; omega), flipD, headD_drop, HE.out, hgd]; rfl
            go_wp2_with fail
            go_ret
            exact ⟨by rw [HO.out, OV.out]; first | rfl | simp, hbel⟩
          · skip
            have OV : Aside (ordK (a.drop k) (b.drop k) (d.drop k) = -1) := by show _ = _; rw [ordAt_ne (by omega) (by rw [HE.out]; omega), flipD, headD_drop, HE.out, hgd]; rfl
            go_wp2_with fail
            go_ret
            exact ⟨by rw [HO.out, OV.out]; first | rfl | simp, hbel⟩
        · have hkdb : decide ((k : Int) < (d.length : Int)) = false := by simp; omega
          have hgd : d.getD k false = false := by simp [List.getD, List.getElem?_eq_none (Nat.le_of_not_lt hkd)]
          have OV : Aside (ordK (a.drop k) (b.drop k) (d.drop k) = 1) := by show _ = _; rw [ordAt_ne (by omega) (by rw [HE.out]; omega), flipD, headD_drop, HE.out, hgd]; rfl
          go_wp2_with fail
          go_ret
          exact ⟨by rw [HO.out, OV.out]; first | rfl | simp, hbel⟩
    · have g1 : decide ((k : Int) < (a.length : Int)) = false := by simp; omega
      by_cases kb : k < b.length
      · have g1b : decide ((k : Int) < (b.length : Int)) = true := by simp; omega
        have g2 : decide ((a.length : Int) ≤ (k : Int)) = true := by simp; omega
        have HE : Hid (ordAt a b k = -1) := by show _ = _; unfold ordAt; rw [if_pos (by omega)]
        by_cases hkd : k < d.length
        · have hkdb : decide ((k : Int) < (d.length : Int)) = true := by simp; omega
          obtain ⟨db, dof, rfl, hcell⟩ := HDC.out k hkd
          have hgd : d.getD k false = d[k] := by simp [List.getD, hkd]
          have hcell' := cell_keep hcell hbel
          clear hcell
          have j0 : (0 : Int) ≤ (k : Int) := by omega
          have j1 : (k : Int) < (d.length : Int) := by omega
          generalize d[k] = dk at hcell' hgd
          cases dk
          · skip
            have OV : Aside (ordK (a.drop k) (b.drop k) (d.drop k) = (-1)) := by show _ = _; rw [ordAt_ne (by omega) (by rw [HE.out]; omega), flipD, headD_drop, HE.out, hgd]; rfl
            go_wp2_with fail
            go_ret
            exact ⟨by rw [HO.out, OV.out]; first | rfl | simp, hbel⟩
          · skip
            have OV : Aside (ordK (a.drop k) (b.drop k) (d.drop k) = 1) := by show _ = _; rw [ordAt_ne (by omega) (by rw [HE.out]; omega), flipD, headD_drop, HE.out, hgd]; rfl
            go_wp2_with fail
            go_ret
            exact ⟨by rw [HO.out, OV.out]; first | rfl | simp, hbel⟩
        · have hkdb : decide ((k : Int) < (d.length : Int)) = false := by simp; omega
          have hgd : d.getD k false = false := by simp [List.getD, List.getElem?_eq_none (Nat.le_of_not_lt hkd)]
          have OV : Aside (ordK (a.drop k) (b.drop k) (d.drop k) = (-1)) := by show _ = _; rw [ordAt_ne (by omega) (by rw [HE.out]; omega), flipD, headD_drop, HE.out, hgd]; rfl
          go_wp2_with fail
          go_ret
          exact ⟨by rw [HO.out, OV.out]; first | rfl | simp, hbel⟩
      · have g1b : decide ((k : Int) < (b.length : Int)) = false := by simp; omega
        go_wp2_with fail
        go_ret
        exact ⟨by rw [HO.out, ordK_end (by omega) (by omega)]; rfl, hbel⟩

end Go.Proofs.YtalfeggddfpgeaaDoor
