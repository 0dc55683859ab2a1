/- Contract of the program's Scan. -/
import Derived.Test.YthogkmcahnkkoaaGreatDoorJ15
namespace Go.Proofs.YthogkmcahnkkoaaGreatDoor
open Go.RowKit Go.Sort
set_option maxRecDepth 100000 in
set_option maxHeartbeats 4000000 in
theorem LJ (w : World) (s : ByteArray) (hs : s.size ≤ 1000000) (hm : uw w ∨ ∀ c ∈ s.data.toList, c.toNat ≠ 39) :
  Calls Tryz.prog 38 #[.string s] w fun e w' => ∃ v, e = .returned (.tuple #[v, .int .i64 ((dw s).2.1 : Int), .int .i64 (dw s).2.2]) ∧ kK 4 RN w' w.heap.size 100 v (dw s).1 ∧ ((dw s).1 = [] → v = .slice none 0 0) ∧ Below w.heap.size w w' := by
 by_cases h20 : 20000 < s.size
 ·have HX : Hid (dw s = ([], 0, 8)) := by show dw s = _; unfold dw; rw [if_pos h20]
  have q : decide ((20000 : Int) < (s.size : Int)) = true := by simp; omega
  go_enter Tryz.func38, Tryz.ntmps38
  go_wp2_with fail
  refine Ap 0 (fun _ _ => False) (fun _ _ => 0) rfl (fun _ => ?_) (fun _ _ h => h.elim)
  go_wp2_with fail
  simp only [Exit.jump]
  go_ret3
  rw [HX.out]
  exact ⟨_, rfl, kK.nil _ _ _, fun _ => rfl, Below.refl _ _⟩
 have HS : Hid (dw s = nD s.data.toList 0 0) := U5 (by omega)
 have q : decide ((20000 : Int) < (s.size : Int)) = false := by simp; omega
 have H20 : Hid (s.size ≤ 20000) := by show s.size ≤ 20000; omega
 clear h20
 go_enter Tryz.func38, Tryz.ntmps38
 go_wp2_with fail
 refine Ap 0 (fun a' w' => ∃ (k : Nat) (out : List Tk) (ov u1 u2 u3 u4 u7 u8 u9 u10 u11 u12 u13 u14 u15 u16 u17 u18 u19 u20 u21 u22 u23 u24 u25 u26 u27 u28 u29 u30 u31 u32 u33 u34 u35 u36 u37 u38 u39 u40 u41 u42 u43 u44 u45 u46 u47 u48 u49 u50 u51 u52 u53 u54 u55 u56 u57 u58 u59 u60 u61 u62 : Value), a' = { tmps := #[.string s, u1, u2, u3, u4, ov, .int .i64 (k : Int), u7, u8, u9, u10, u11, u12, u13, u14, u15, u16, u17, u18, u19, u20, u21, u22, u23, u24, u25, u26, u27, u28, u29, u30, u31, u32, u33, u34, u35, u36, u37, u38, u39, u40, u41, u42, u43, u44, u45, u46, u47, u48, u49, u50, u51, u52, u53, u54, u55, u56, u57, u58, u59, u60, u61, u62], defers := [] } ∧ k ≤ s.size ∧ kK 4 RN w' w.heap.size 100 ov out ∧ out.length ≤ 6000 ∧ dw s = iL out (nD (s.data.toList.drop k) k out.length) ∧ Below w.heap.size w w') (fun a' _ => s.size - (intOf (a'.tmps.getD 6 undef)).toNat) rfl (fun hk => ?_) ?_
 ·go_wp2_with fail
  go_step3
  rename_i hkx
  refine hkx _ _ (hk _ _ ?_)
  exact ⟨0, [], _, _, _, _, _, _, _, _, _, _, _, _, _, _, _, _, _, _, _, _, _, _, _, _, _, _, _, _, _, _, _, _, _, _, _, _, _, _, _, _, _, _, _, _, _, _, _, _, _, _, _, _, _, _, _, _, _, _, _, _, _, rfl, Nat.zero_le _, kK.nil _ _ _, by simp, by rw [HS.out, List.drop_zero]; exact (NP _ (rW _ _ _ _).1 (rW _ _ _ _).2).symm, Below.refl _ _⟩
 rintro _ w1 ⟨k, out, ov, u1, u2, u3, u4, u7, u8, u9, u10, u11, u12, u13, u14, u15, u16, u17, u18, u19, u20, u21, u22, u23, u24, u25, u26, u27, u28, u29, u30, u31, u32, u33, u34, u35, u36, u37, u38, u39, u40, u41, u42, u43, u44, u45, u46, u47, u48, u49, u50, u51, u52, u53, u54, u55, u56, u57, u58, u59, u60, u61, u62, rfl, hks, ho, hol, hsc, hbel⟩
 have hm1 : uw w1 ∨ ∀ c ∈ s.data.toList, c.toNat ≠ 39 := hm.imp (fun h => h.keep hbel) id
 have HM : Hid (uw w1 ∨ ∀ c ∈ s.data.toList, c.toNat ≠ 39) := hm1
 clear hm1 hm
 obtain ⟨oa, oc, rfl⟩ := ho.shapeN rfl
 have hsz := hbel.size
 rw [Am, List.drop_drop] at hsc
 have a1 := Oj w1 (s.extract k s.size) (by simp; omega)
 rw [qH] at a1
 have hle : runN gy (s.data.toList.drop k) ≤ s.size - k := by have := qE gy (s.data.toList.drop k); simpa using this
 have HB : Hid (s.data.toList.drop (k + runN gy (s.data.toList.drop k)) = [] ∨ ∃ c r, s.data.toList.drop (k + runN gy (s.data.toList.drop k)) = c :: r ∧ gy c = false) := by
  have := Hr gy (s.data.toList.drop k)
  rwa [List.drop_drop] at this
 have HC : Hid (dw s = iL out (nD (s.data.toList.drop (k + runN gy (s.data.toList.drop k))) (k + runN gy (s.data.toList.drop k)) out.length)) := hsc
 clear hsc
 generalize runN gy (s.data.toList.drop k) = n1 at a1 hle HB HC
 have i0 : (0 : Int) ≤ (k : Int) := by omega
 have i1 : (k : Int) ≤ (s.size : Int) := by omega
 have i2 : (k : Int) + (n1 : Int) ≤ (s.size : Int) := by omega
 have i3 : (0 : Int) ≤ (k : Int) + (n1 : Int) := by omega
 have e1 : ((k : Int) + (n1 : Int)).toNat = k + n1 := by omega
 have a2 := Tryz.strings_HasPrefix (s.extract (k + n1) s.size) ⟨#[45, 45]⟩ w1
 rw [qH] at a2
 change Calls Tryz.prog 81 _ w1 (fun e w' => e = .returned (.bool (Lib.hasPrefix (s.data.toList.drop (k + n1)) [45, 45])) ∧ w' = w1) at a2
 cases hp : Lib.hasPrefix (s.data.toList.drop (k + n1)) [45, 45]
 ·rw [hp] at a2
  have a3 := Sl w1 s (k + n1) (by omega) hs HM.out
  have HX : Hid (dw s = iL out (match BU (s.data.toList.drop (k + n1)) with
   | .inr n => ([], k + n1 + n, 10)
   | .inl (kind, t, n, len) => if 6000 ≤ out.length then ([], k + n1, 8) else if s.data.toList.drop (k + n1) = [] then ([(kind, ⟨t.toArray⟩, (n : Int), ((k + n1 : Nat) : Int))], 0, 0) else iL [(kind, ⟨t.toArray⟩, (n : Int), ((k + n1 : Nat) : Int))] (nD ((s.data.toList.drop (k + n1)).drop len) (k + n1 + len) (out.length + 1)))) := by
   show dw s = _
   rw [HC.out, RY HB.out hp]
   generalize BU (s.data.toList.drop (k + n1)) = z
   rcases z with ⟨kind, t, n, len⟩ | d <;> rfl
  have HF : Hid (∀ kind t n len, BU (s.data.toList.drop (k + n1)) = .inl (kind, t, n, len) → (s.data.toList.drop (k + n1) = [] ∧ kind = 0) ∨ (¬ s.data.toList.drop (k + n1) = [] ∧ kind ≠ 0 ∧ 0 < len ∧ len ≤ s.size - (k + n1))) := fun kind t n len h => by
   have := Oq h
   simpa using this
  have HT : Hid (∀ kind t n len, BU (s.data.toList.drop (k + n1)) = .inl (kind, t, n, len) → t.length ≤ 1000) := fun kind t n len h => Sj h
  have HD : Hid (∀ d, BU (s.data.toList.drop (k + n1)) = .inr d → d ≤ s.size - (k + n1)) := fun d h => by
   have := VK h
   simpa using this
  clear HC HB hp
  generalize BU (s.data.toList.drop (k + n1)) = R at a3 HX HF HT HD
  match R, a3, HX, HF, HT, HD with
  | .inr d, a3, HX, HF, HT, HD =>
   simp only [gX] at a3
   have hd := HD.out d rfl
   replace HX : Hid (dw s = ([], k + n1 + d, 10)) := by show dw s = _; rw [HX.out]; exact Fe (by decide) _
   have q2 : ((d : Int) != -1) = true := by rw [bne_iff_ne]; omega
   have i4 : (k : Int) + (n1 : Int) + (d : Int) ≤ (s.size : Int) := by omega
   go_wp2_with fail
   refine a1.mono ?_
   rintro e w2 ⟨rfl, hw2⟩
   subst w2
   go_wp2_with fail
   refine a2.mono ?_
   rintro e w2 ⟨rfl, hw2⟩
   subst w2
   go_wp2_with fail
   refine a3.mono ?_
   rintro e w3 ⟨rfl, b3⟩
   go_wp2_with fail
   simp only [Exit.jump]
   go_ret3
   rw [HX.out]
   exact ⟨_, rfl, kK.nil _ _ _, fun _ => rfl, (lC hbel b3).alloc (by have := b3.size; omega) _⟩
  | .inl (kind, tx, n, len), a3, HX, HF, HT, HD =>
   simp only [gX] at a3
   have hf := HF.out _ _ _ _ rfl
   have ht := HT.out _ _ _ _ rfl
   have hts : (⟨tx.toArray⟩ : ByteArray).size ≤ 1000000 := by simp [ByteArray.size]; omega
   by_cases h6 : out.length = 6000
   ·have h6' : ((out.length : Int) == 6000) = true := by rw [h6]; rfl
    replace HX : Hid (dw s = ([], k + n1, 8)) := by show dw s = _; rw [HX.out]; simp only; rw [if_pos (by omega), Fe (by decide)]
    generalize (⟨tx.toArray⟩ : ByteArray) = tb at *
    go_wp2_with fail
    refine a1.mono ?_
    rintro e w2 ⟨rfl, hw2⟩
    subst w2
    go_wp2_with fail
    refine a2.mono ?_
    rintro e w2 ⟨rfl, hw2⟩
    subst w2
    go_wp2_with fail
    refine a3.mono ?_
    rintro e w3 ⟨rfl, b3⟩
    go_wp2_with fail
    simp only [Exit.jump]
    go_ret3
    rw [HX.out]
    exact ⟨_, rfl, kK.nil _ _ _, fun _ => rfl, (lC hbel b3).alloc (by have := b3.size; omega) _⟩
   ·have h6' : ((out.length : Int) == 6000) = false := by rw [beq_eq_false_iff_ne]; omega
    have h6n : ¬ 6000 ≤ out.length := by omega
    rcases hf with ⟨hnil, rfl⟩ | ⟨hnil, hkd, hl0, hl1⟩
    ·replace HX : Hid (dw s = (out ++ [((0, ⟨tx.toArray⟩, (n : Int), ((k + n1 : Nat) : Int)) : Tk)], 0, 0)) := by
      show dw s = _
      rw [HX.out]; simp only; rw [if_neg h6n, if_pos hnil]; rfl
     clear hnil
     generalize (⟨tx.toArray⟩ : ByteArray) = tb at *
     go_wp2_with fail
     refine a1.mono ?_
     rintro e w2 ⟨rfl, hw2⟩
     subst w2
     go_wp2_with fail
     refine a2.mono ?_
     rintro e w2 ⟨rfl, hw2⟩
     subst w2
     go_wp2_with fail
     refine a3.mono ?_
     rintro e w3 ⟨rfl, b3⟩
     have hsz3 := b3.size
     go_wp2_with fail
     refine (clone_any _ tb hts).mono ?_
     rintro e w5 ⟨rfl, b5⟩
     have b15 := lC (lC b3 ((Below.refl _ _).alloc (Nat.le_refl _) _)) b5
     have t5 : dN w5 w3.heap.size 0 tb n 0 := dN.keep (heap_alloc_new w3 _) b5
     have b16 : Below w1.heap.size w1 ((w5.setCell ⟨w3.heap.size, 1, none⟩ (.string tb)).setCell ⟨w3.heap.size, 3, none⟩ (.int .i64 ((k : Int) + (n1 : Int)))) := (b15.setCell hsz3 _).setCell hsz3 _
     have t6 := t5.set13 tb ((k : Int) + (n1 : Int))
     have ho1 := ho.keep b16
     have hno := ho.notOwn hsz3
     have abw := b16.size
     obtain ⟨c0, c1, c2, c3⟩ := t5.cells
     have hfz := t5.frozen
     go_wp2_with (at_builtin; refine yH LC (by decide) LD (0, tb, (n : Int), ((k + n1 : Nat) : Int)) VF Tryz.underlying93 rfl (by decide) (.tmp 52) (.tmp 54) rfl rfl rfl rfl (by first | rfl | simp) rfl ho1 (Nat.le_trans hsz abw) (by omega) ?_; intro v1 w7 ho2 hb2 hk2; have ct := (dN.cells (t6.after hk2 hno)).1)
     simp only [Exit.jump]
     go_ret3
     rw [HX.out]
     exact ⟨_, rfl, ho2, fun h => absurd h (by simp), (hbel.trans (b16.mono hsz)).trans hb2⟩
    ·replace HX : Hid (dw s = iL (out ++ [((kind, ⟨tx.toArray⟩, (n : Int), ((k + n1 : Nat) : Int)) : Tk)]) (nD (s.data.toList.drop (k + n1 + len)) (k + n1 + len) (out ++ [((kind, ⟨tx.toArray⟩, (n : Int), ((k + n1 : Nat) : Int)) : Tk)]).length)) := by
      show dw s = _
      rw [HX.out]; simp only; rw [if_neg h6n, if_neg hnil, NQ, List.drop_drop, List.length_append]; rfl
     have q3 : (kind != 0) = true := by rw [bne_iff_ne]; exact hkd
     have i4 : (k : Int) + (n1 : Int) + (len : Int) ≤ (s.size : Int) := by omega
     clear hnil hkd
     generalize (⟨tx.toArray⟩ : ByteArray) = tb at *
     go_wp2_with fail
     refine a1.mono ?_
     rintro e w2 ⟨rfl, hw2⟩
     subst w2
     go_wp2_with fail
     refine a2.mono ?_
     rintro e w2 ⟨rfl, hw2⟩
     subst w2
     go_wp2_with fail
     refine a3.mono ?_
     rintro e w3 ⟨rfl, b3⟩
     have hsz3 := b3.size
     go_wp2_with fail
     refine (clone_any _ tb hts).mono ?_
     rintro e w5 ⟨rfl, b5⟩
     have b15 := lC (lC b3 ((Below.refl _ _).alloc (Nat.le_refl _) _)) b5
     have t5 : dN w5 w3.heap.size kind tb n 0 := dN.keep (heap_alloc_new w3 _) b5
     have b16 : Below w1.heap.size w1 ((w5.setCell ⟨w3.heap.size, 1, none⟩ (.string tb)).setCell ⟨w3.heap.size, 3, none⟩ (.int .i64 ((k : Int) + (n1 : Int)))) := (b15.setCell hsz3 _).setCell hsz3 _
     have t6 := t5.set13 tb ((k : Int) + (n1 : Int))
     have ho1 := ho.keep b16
     have hno := ho.notOwn hsz3
     have abw := b16.size
     obtain ⟨c0, c1, c2, c3⟩ := t5.cells
     have hfz := t5.frozen
     go_wp2_with (at_builtin; refine yH LC (by decide) LD (kind, tb, (n : Int), ((k + n1 : Nat) : Int)) VF Tryz.underlying93 rfl (by decide) (.tmp 52) (.tmp 54) rfl rfl rfl rfl (by first | rfl | simp) rfl ho1 (Nat.le_trans hsz abw) (by omega) ?_; intro v1 w7 ho2 hb2 hk2; have ct := (dN.cells (t6.after hk2 hno)).1)
     go_step3
     refine ⟨rfl, ⟨k + n1 + len, _, _, _, _, _, _, _, _, _, _, _, _, _, _, _, _, _, _, _, _, _, _, _, _, _, _, _, _, _, _, _, _, _, _, _, _, _, _, _, _, _, _, _, _, _, _, _, _, _, _, _, _, _, _, _, _, _, _, _, _, _, _, rfl, by omega, ho2, by simp; omega, HX.out, (hbel.trans (b16.mono hsz)).trans hb2⟩, ?_⟩
     simp [intOf]; omega
 ·rw [hp] at a2
  have hd := Oo hp (k + n1) out.length
  have a3 := RQ w1 (s.extract (k + n1) s.size) (by simp; omega)
  rw [qH] at a3
  have hle2 : runN mY (s.data.toList.drop (k + n1)) ≤ s.size - (k + n1) := by have := qE mY (s.data.toList.drop (k + n1)); simpa using this
  rw [List.drop_drop] at hd
  have HX : Hid (dw s = iL out (nD (s.data.toList.drop (k + n1 + runN mY (s.data.toList.drop (k + n1)))) (k + n1 + runN mY (s.data.toList.drop (k + n1))) out.length)) := by
   show dw s = _
   rw [HC.out, hd.1]
  have hpos := hd.2
  clear hd HC HB hp
  generalize runN mY (s.data.toList.drop (k + n1)) = n2 at a3 hle2 HX hpos
  have i4 : (k : Int) + (n1 : Int) + (n2 : Int) ≤ (s.size : Int) := by omega
  go_wp2_with fail
  refine a1.mono ?_
  rintro e w2 ⟨rfl, hw2⟩
  subst w2
  go_wp2_with fail
  refine a2.mono ?_
  rintro e w2 ⟨rfl, hw2⟩
  subst w2
  go_wp2_with fail
  refine a3.mono ?_
  rintro e w2 ⟨rfl, hw2⟩
  subst w2
  go_wp2_with fail
  go_step3
  refine ⟨rfl, ⟨k + n1 + n2, out, _, _, _, _, _, _, _, _, _, _, _, _, _, _, _, _, _, _, _, _, _, _, _, _, _, _, _, _, _, _, _, _, _, _, _, _, _, _, _, _, _, _, _, _, _, _, _, _, _, _, _, _, _, _, _, _, _, _, _, _, _, rfl, by omega, ho, hol, HX.out, hbel⟩, ?_⟩
  simp [intOf]; omega
end Go.Proofs.YthogkmcahnkkoaaGreatDoor
