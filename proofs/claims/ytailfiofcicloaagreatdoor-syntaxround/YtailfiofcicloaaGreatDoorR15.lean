/- Contract of the program's Scan. Contract of the program's Word. The program's reader: Word and Scan in the reckoning's memory. -/
import Derived.Test.YtailfiofcicloaaGreatDoorR14
import Derived.Test.YtailfiofcicloaaGreatDoorR11

namespace Go.Proofs.YtailfiofcicloaaGreatDoor
open Go.RowKit Go.Sort

set_option maxRecDepth 100000 in
set_option maxHeartbeats 4000000 in
theorem scan_own (w : World) (s : ByteArray) (hs : s.size ≤ 1000000) (hm : HasMax w ∨ ∀ c ∈ s.data.toList, c.toNat ≠ 39) :
    Calls Tryz.prog 20 #[.string s] w fun e w' => ∃ v, e = .returned (.tuple #[v, .int .i64 ((scanS s).2.1 : Int), .int .i64 (scanS s).2.2]) ∧ OwnG 4 encT w' w.heap.size 67 v (scanS s).1 ∧ ((scanS s).1 = [] → v = .slice none 0 0) ∧ Below w.heap.size w w' := by
  by_cases h20 : 20000 < s.size
  · have HX : Hid (scanS s = ([], 0, 8)) := by show scanS s = _; unfold scanS; rw [if_pos h20]
    have q : decide ((20000 : Int) < (s.size : Int)) = true := by simp; omega
    go_enter Tryz.func20, Tryz.ntmps20
    go_wp2_with fail
    refine wp_scope_mid 0 (fun _ _ => False) (fun _ _ => 0) rfl (fun _ => ?_) (fun _ _ h => h.elim)
    go_wp2_with fail
    simp only [Exit.jump]
    go_ret3
    rw [HX.out]
    exact ⟨_, rfl, OwnG.nil _ _ _, fun _ => rfl, Below.refl _ _⟩
  have HS : Hid (scanS s = scanR s.data.toList 0 0) := scanS_eq (by omega)
  have q : decide ((20000 : Int) < (s.size : Int)) = false := by simp; omega
  have H20 : Hid (s.size ≤ 20000) := by show s.size ≤ 20000; omega
  clear h20
  go_enter Tryz.func20, Tryz.ntmps20
  go_wp2_with fail
  refine wp_scope_mid 0 (fun a' w' => ∃ (k : Nat) (out : List Tk) (ov u1 u2 u3 u4 u7 u8 u9 u10 u11 u12 u13 u14 u15 u16 u17 u18 u19 u20 u21 u22 u23 u24 u25 u26 u27 u28 u29 u30 u31 u32 u33 u34 u35 u36 u37 u38 u39 u40 u41 u42 u43 u44 u45 u46 u47 u48 u49 u50 u51 u52 u53 u54 u55 u56 u57 u58 u59 u60 u61 u62 : Value), a' = { tmps := #[.string s, u1, u2, u3, u4, ov, .int .i64 (k : Int), u7, u8, u9, u10, u11, u12, u13, u14, u15, u16, u17, u18, u19, u20, u21, u22, u23, u24, u25, u26, u27, u28, u29, u30, u31, u32, u33, u34, u35, u36, u37, u38, u39, u40, u41, u42, u43, u44, u45, u46, u47, u48, u49, u50, u51, u52, u53, u54, u55, u56, u57, u58, u59, u60, u61, u62], defers := [] } ∧ k ≤ s.size ∧ OwnG 4 encT w' w.heap.size 67 ov out ∧ out.length ≤ 6000 ∧ scanS s = aheadT out (scanR (s.data.toList.drop k) k out.length) ∧ Below w.heap.size w w') (fun a' _ => s.size - (intOf (a'.tmps.getD 6 undef)).toNat) rfl (fun hk => ?_) ?_
  · go_wp2_with fail
    go_step3
    rename_i hkx
    refine hkx _ _ (hk _ _ ?_)
    exact ⟨0, [], _, _, _, _, _, _, _, _, _, _, _, _, _, _, _, _, _, _, _, _, _, _, _, _, _, _, _, _, _, _, _, _, _, _, _, _, _, _, _, _, _, _, _, _, _, _, _, _, _, _, _, _, _, _, _, _, _, _, _, _, _, rfl, Nat.zero_le _, OwnG.nil _ _ _, by simp, by rw [HS.out, List.drop_zero]; exact (aheadT_nil _ (scanF_form _ _ _ _).1 (scanF_form _ _ _ _).2).symm, Below.refl _ _⟩
  rintro _ w1 ⟨k, out, ov, u1, u2, u3, u4, u7, u8, u9, u10, u11, u12, u13, u14, u15, u16, u17, u18, u19, u20, u21, u22, u23, u24, u25, u26, u27, u28, u29, u30, u31, u32, u33, u34, u35, u36, u37, u38, u39, u40, u41, u42, u43, u44, u45, u46, u47, u48, u49, u50, u51, u52, u53, u54, u55, u56, u57, u58, u59, u60, u61, u62, rfl, hks, ho, hol, hsc, hbel⟩
  have hm1 : HasMax w1 ∨ ∀ c ∈ s.data.toList, c.toNat ≠ 39 := hm.imp (fun h => h.keep hbel) id
  have HM : Hid (HasMax w1 ∨ ∀ c ∈ s.data.toList, c.toNat ≠ 39) := hm1
  clear hm1 hm
  obtain ⟨oa, oc, rfl⟩ := ho.shapeN rfl
  have hsz := hbel.size
  rw [scanR_blanks, List.drop_drop] at hsc
  have a1 := span_blank w1 (s.extract k s.size) (by simp; omega)
  rw [extract_rest] at a1
  have hle : runN blankB (s.data.toList.drop k) ≤ s.size - k := by have := runN_le blankB (s.data.toList.drop k); simpa using this
  have HB : Hid (s.data.toList.drop (k + runN blankB (s.data.toList.drop k)) = [] ∨ ∃ c r, s.data.toList.drop (k + runN blankB (s.data.toList.drop k)) = c :: r ∧ blankB c = false) := by
    have := runN_stop blankB (s.data.toList.drop k)
    rwa [List.drop_drop] at this
  have HC : Hid (scanS s = aheadT out (scanR (s.data.toList.drop (k + runN blankB (s.data.toList.drop k))) (k + runN blankB (s.data.toList.drop k)) out.length)) := hsc
  clear hsc
  generalize runN blankB (s.data.toList.drop k) = n1 at a1 hle HB HC
  have i0 : (0 : Int) ≤ (k : Int) := by omega
  have i1 : (k : Int) ≤ (s.size : Int) := by omega
  have i2 : (k : Int) + (n1 : Int) ≤ (s.size : Int) := by omega
  have i3 : (0 : Int) ≤ (k : Int) + (n1 : Int) := by omega
  have e1 : ((k : Int) + (n1 : Int)).toNat = k + n1 := by omega
  have a2 := Tryz.strings_HasPrefix (s.extract (k + n1) s.size) ⟨#[45, 45]⟩ w1
  rw [extract_rest] at a2
  change Calls Tryz.prog 41 _ w1 (fun e w' => e = .returned (.bool (Lib.hasPrefix (s.data.toList.drop (k + n1)) [45, 45])) ∧ w' = w1) at a2
  cases hp : Lib.hasPrefix (s.data.toList.drop (k + n1)) [45, 45]
  · rw [hp] at a2
    have a3 := take_rest w1 s (k + n1) (by omega) hs HM.out
    have HX : Hid (scanS s = aheadT out (match oneE (s.data.toList.drop (k + n1)) with
      | .inr n => ([], k + n1 + n, 10)
      | .inl (kind, t, n, len) => if 6000 ≤ out.length then ([], k + n1, 8) else if s.data.toList.drop (k + n1) = [] then ([(kind, ⟨t.toArray⟩, (n : Int), ((k + n1 : Nat) : Int))], 0, 0) else aheadT [(kind, ⟨t.toArray⟩, (n : Int), ((k + n1 : Nat) : Int))] (scanR ((s.data.toList.drop (k + n1)).drop len) (k + n1 + len) (out.length + 1)))) := by
      show scanS s = _
      rw [HC.out, scanR_tok HB.out hp]
      generalize oneE (s.data.toList.drop (k + n1)) = z
      rcases z with ⟨kind, t, n, len⟩ | d <;> rfl
    have HF : Hid (∀ kind t n len, oneE (s.data.toList.drop (k + n1)) = .inl (kind, t, n, len) → (s.data.toList.drop (k + n1) = [] ∧ kind = 0) ∨ (¬ s.data.toList.drop (k + n1) = [] ∧ kind ≠ 0 ∧ 0 < len ∧ len ≤ s.size - (k + n1))) := fun kind t n len h => by
      have := oneE_facts h
      simpa using this
    have HT : Hid (∀ kind t n len, oneE (s.data.toList.drop (k + n1)) = .inl (kind, t, n, len) → t.length ≤ 1000) := fun kind t n len h => oneE_text h
    have HD : Hid (∀ d, oneE (s.data.toList.drop (k + n1)) = .inr d → d ≤ s.size - (k + n1)) := fun d h => by
      have := oneE_bad h
      simpa using this
    clear HC HB hp
    generalize oneE (s.data.toList.drop (k + n1)) = R at a3 HX HF HT HD
    match R, a3, HX, HF, HT, HD with
    | .inr d, a3, HX, HF, HT, HD =>
      simp only [takeV] at a3
      have hd := HD.out d rfl
      replace HX : Hid (scanS s = ([], k + n1 + d, 10)) := by show scanS s = _; rw [HX.out]; exact aheadT_err (by decide) _
      have q2 : ((d : Int) != -1) = true := by rw [bne_iff_ne]; omega
      have i4 : (k : Int) + (n1 : Int) + (d : Int) ≤ (s.size : Int) := by omega
      go_wp2_with fail
      refine a1.mono ?_
      rintro e w2 ⟨rfl, hw2⟩
      subst w2
      go_wp2_with fail
      refine a2.mono ?_
      rintro e w2 ⟨rfl, hw2⟩
      subst w2
      go_wp2_with fail
      refine a3.mono ?_
      rintro e w3 ⟨rfl, b3⟩
      go_wp2_with fail
      simp only [Exit.jump]
      go_ret3
      rw [HX.out]
      exact ⟨_, rfl, OwnG.nil _ _ _, fun _ => rfl, (btrans hbel b3).alloc (by have := b3.size; omega) _⟩
    | .inl (kind, tx, n, len), a3, HX, HF, HT, HD =>
      simp only [takeV] at a3
      have hf := HF.out _ _ _ _ rfl
      have ht := HT.out _ _ _ _ rfl
      have hts : (⟨tx.toArray⟩ : ByteArray).size ≤ 1000000 := by simp [ByteArray.size]; omega
      by_cases h6 : out.length = 6000
      · have h6' : ((out.length : Int) == 6000) = true := by rw [h6]; rfl
        replace HX : Hid (scanS s = ([], k + n1, 8)) := by show scanS s = _; rw [HX.out]; simp only; rw [if_pos (by omega), aheadT_err (by decide)]
        generalize (⟨tx.toArray⟩ : ByteArray) = tb at *
        go_wp2_with fail
        refine a1.mono ?_
        rintro e w2 ⟨rfl, hw2⟩
        subst w2
        go_wp2_with fail
        refine a2.mono ?_
        rintro e w2 ⟨rfl, hw2⟩
        subst w2
        go_wp2_with fail
        refine a3.mono ?_
        rintro e w3 ⟨rfl, b3⟩
        go_wp2_with fail
        simp only [Exit.jump]
        go_ret3
        rw [HX.out]
        exact ⟨_, rfl, OwnG.nil _ _ _, fun _ => rfl, (btrans hbel b3).alloc (by have := b3.size; omega) _⟩
      · have h6' : ((out.length : Int) == 6000) = false := by rw [beq_eq_false_iff_ne]; omega
        have h6n : ¬ 6000 ≤ out.length := by omega
        rcases hf with ⟨hnil, rfl⟩ | ⟨hnil, hkd, hl0, hl1⟩
        · replace HX : Hid (scanS s = (out ++ [((0, ⟨tx.toArray⟩, (n : Int), ((k + n1 : Nat) : Int)) : Tk)], 0, 0)) := by
            show scanS s = _
            rw [HX.out]; simp only; rw [if_neg h6n, if_pos hnil]; rfl
          clear hnil
          generalize (⟨tx.toArray⟩ : ByteArray) = tb at *
          go_wp2_with fail
          refine a1.mono ?_
          rintro e w2 ⟨rfl, hw2⟩
          subst w2
          go_wp2_with fail
          refine a2.mono ?_
          rintro e w2 ⟨rfl, hw2⟩
          subst w2
          go_wp2_with fail
          refine a3.mono ?_
          rintro e w3 ⟨rfl, b3⟩
          have hsz3 := b3.size
          go_wp2_with fail
          refine (clone_any _ tb hts).mono ?_
          rintro e w5 ⟨rfl, b5⟩
          have b15 := btrans (btrans b3 ((Below.refl _ _).alloc (Nat.le_refl _) _)) b5
          have t5 : TokAt w5 w3.heap.size 0 tb n 0 := TokAt.keep (heap_alloc_new w3 _) b5
          have b16 : Below w1.heap.size w1 ((w5.setCell ⟨w3.heap.size, 1, none⟩ (.string tb)).setCell ⟨w3.heap.size, 3, none⟩ (.int .i64 ((k : Int) + (n1 : Int)))) := (b15.setCell hsz3 _).setCell hsz3 _
          have t6 := t5.set13 tb ((k : Int) + (n1 : Int))
          have ho1 := ho.keep b16
          have hno := ho.notOwn hsz3
          have hsz6 := b16.size
          obtain ⟨c0, c1, c2, c3⟩ := t5.cells
          have hfz := t5.frozen
          go_wp2_with (at_builtin; refine wpList_pushG2 encT_len (by decide) encT_one (0, tb, (n : Int), ((k + n1 : Nat) : Int)) info_T Tryz.underlying60 rfl (by decide) (.tmp 52) (.tmp 54) rfl rfl rfl rfl (by first | rfl | simp) rfl ho1 (Nat.le_trans hsz hsz6) (by omega) ?_; intro v1 w7 ho2 hb2 hk2; have ct := (TokAt.cells (t6.after hk2 hno)).1)
          simp only [Exit.jump]
          go_ret3
          rw [HX.out]
          exact ⟨_, rfl, ho2, fun h => absurd h (by simp), (hbel.trans (b16.mono hsz)).trans hb2⟩
        · replace HX : Hid (scanS s = aheadT (out ++ [((kind, ⟨tx.toArray⟩, (n : Int), ((k + n1 : Nat) : Int)) : Tk)]) (scanR (s.data.toList.drop (k + n1 + len)) (k + n1 + len) (out ++ [((kind, ⟨tx.toArray⟩, (n : Int), ((k + n1 : Nat) : Int)) : Tk)]).length)) := by
            show scanS s = _
            rw [HX.out]; simp only; rw [if_neg h6n, if_neg hnil, aheadT_add, List.drop_drop, List.length_append]; rfl
          have q3 : (kind != 0) = true := by rw [bne_iff_ne]; exact hkd
          have i4 : (k : Int) + (n1 : Int) + (len : Int) ≤ (s.size : Int) := by omega
          clear hnil hkd
          generalize (⟨tx.toArray⟩ : ByteArray) = tb at *
          go_wp2_with fail
          refine a1.mono ?_
          rintro e w2 ⟨rfl, hw2⟩
          subst w2
          go_wp2_with fail
          refine a2.mono ?_
          rintro e w2 ⟨rfl, hw2⟩
          subst w2
          go_wp2_with fail
          refine a3.mono ?_
          rintro e w3 ⟨rfl, b3⟩
          have hsz3 := b3.size
          go_wp2_with fail
          refine (clone_any _ tb hts).mono ?_
          rintro e w5 ⟨rfl, b5⟩
          have b15 := btrans (btrans b3 ((Below.refl _ _).alloc (Nat.le_refl _) _)) b5
          have t5 : TokAt w5 w3.heap.size kind tb n 0 := TokAt.keep (heap_alloc_new w3 _) b5
          have b16 : Below w1.heap.size w1 ((w5.setCell ⟨w3.heap.size, 1, none⟩ (.string tb)).setCell ⟨w3.heap.size, 3, none⟩ (.int .i64 ((k : Int) + (n1 : Int)))) := (b15.setCell hsz3 _).setCell hsz3 _
          have t6 := t5.set13 tb ((k : Int) + (n1 : Int))
          have ho1 := ho.keep b16
          have hno := ho.notOwn hsz3
          have hsz6 := b16.size
          obtain ⟨c0, c1, c2, c3⟩ := t5.cells
          have hfz := t5.frozen
          go_wp2_with (at_builtin; refine wpList_pushG2 encT_len (by decide) encT_one (kind, tb, (n : Int), ((k + n1 : Nat) : Int)) info_T Tryz.underlying60 rfl (by decide) (.tmp 52) (.tmp 54) rfl rfl rfl rfl (by first | rfl | simp) rfl ho1 (Nat.le_trans hsz hsz6) (by omega) ?_; intro v1 w7 ho2 hb2 hk2; have ct := (TokAt.cells (t6.after hk2 hno)).1)
          go_step3
          refine ⟨rfl, ⟨k + n1 + len, _, _, _, _, _, _, _, _, _, _, _, _, _, _, _, _, _, _, _, _, _, _, _, _, _, _, _, _, _, _, _, _, _, _, _, _, _, _, _, _, _, _, _, _, _, _, _, _, _, _, _, _, _, _, _, _, _, _, _, _, _, _, rfl, by omega, ho2, by simp; omega, HX.out, (hbel.trans (b16.mono hsz)).trans hb2⟩, ?_⟩
          simp [intOf]; omega
  · rw [hp] at a2
    have hd := scanR_dash hp (k + n1) out.length
    have a3 := span_line w1 (s.extract (k + n1) s.size) (by simp; omega)
    rw [extract_rest] at a3
    have hle2 : runN noEndB (s.data.toList.drop (k + n1)) ≤ s.size - (k + n1) := by have := runN_le noEndB (s.data.toList.drop (k + n1)); simpa using this
    rw [List.drop_drop] at hd
    have HX : Hid (scanS s = aheadT out (scanR (s.data.toList.drop (k + n1 + runN noEndB (s.data.toList.drop (k + n1)))) (k + n1 + runN noEndB (s.data.toList.drop (k + n1))) out.length)) := by
      show scanS s = _
      rw [HC.out, hd.1]
    have hpos := hd.2
    clear hd HC HB hp
    generalize runN noEndB (s.data.toList.drop (k + n1)) = n2 at a3 hle2 HX hpos
    have i4 : (k : Int) + (n1 : Int) + (n2 : Int) ≤ (s.size : Int) := by omega
    go_wp2_with fail
    refine a1.mono ?_
    rintro e w2 ⟨rfl, hw2⟩
    subst w2
    go_wp2_with fail
    refine a2.mono ?_
    rintro e w2 ⟨rfl, hw2⟩
    subst w2
    go_wp2_with fail
    refine a3.mono ?_
    rintro e w2 ⟨rfl, hw2⟩
    subst w2
    go_wp2_with fail
    go_step3
    refine ⟨rfl, ⟨k + n1 + n2, out, _, _, _, _, _, _, _, _, _, _, _, _, _, _, _, _, _, _, _, _, _, _, _, _, _, _, _, _, _, _, _, _, _, _, _, _, _, _, _, _, _, _, _, _, _, _, _, _, _, _, _, _, _, _, _, _, _, _, _, _, _, rfl, by omega, ho, hol, HX.out, hbel⟩, ?_⟩
    simp [intOf]; omega

end Go.Proofs.YtailfiofcicloaaGreatDoor

namespace Go.Proofs.YtailfiofcicloaaGreatDoor
open Go.RowKit Go.Sort

def wordsT : List (List UInt8) := [[97, 108, 108], [97, 110, 100], [97, 115], [98, 101, 103, 105, 110], [98, 101, 103, 105, 110, 115], [98, 101, 116, 119, 101, 101, 110], [98, 121], [99, 97, 108, 108], [99, 97, 115, 101], [99, 97, 116, 99, 104], [99, 111, 109, 109, 105, 116], [100, 101, 108, 101, 116, 101], [100, 101, 115, 99], [100, 105, 115, 116, 105, 110, 99, 116], [101, 108, 115, 101], [101, 110, 100], [101, 120, 99, 101, 112, 116], [101, 120, 105, 115, 116, 115], [102, 111, 114], [102, 114, 111, 109], [103, 114, 111, 117, 112], [104, 97, 118, 105, 110, 103], [104, 105, 100, 101], [105, 102], [105, 110], [105, 110, 112, 117, 116], [105, 110, 115, 101, 114, 116], [105, 110, 116], [105, 110, 116, 111], [105, 110, 116, 101, 114, 115, 101, 99, 116], [105, 115], [106, 111, 105, 110], [107, 101, 121], [108, 101, 102, 116], [108, 101, 118, 101, 108], [108, 101, 118, 101, 108, 115], [108, 105, 109, 105, 116], [110, 111, 116], [110, 117, 108, 108], [111, 110], [111, 114], [111, 114, 100, 101, 114], [112, 114, 105, 110, 99, 105, 112, 97, 108], [112, 114, 105, 110, 116], [112, 114, 111, 99], [114, 97, 105, 115, 101], [114, 111, 108, 108, 98, 97, 99, 107], [114, 111, 119, 115], [115, 101, 108, 101, 99, 116], [115, 101, 116], [116, 97, 98, 108, 101], [116, 101, 120, 116], [116, 104, 101, 110], [116, 114, 117, 101], [116, 114, 121], [102, 97, 108, 115, 101], [98, 111, 111, 108], [117, 110, 105, 111, 110], [117, 112, 100, 97, 116, 101], [118, 97, 108, 117, 101, 115], [118, 97, 114], [118, 105, 115, 105, 98, 108, 101], [119, 104, 101, 110], [119, 104, 101, 114, 101], [119, 104, 105, 108, 101], [99, 104, 97, 110, 110, 101, 108], [115, 107, 105, 112]]
theorem wordB_iff (s : ByteArray) : wordB s = true ↔ s.toList ∈ wordsT := by
  have e : wordsT = wordsL.map (fun t => t.data.toList) := rfl
  unfold wordB
  rw [List.any_eq_true, e, List.mem_map]
  constructor
  · rintro ⟨t, ht, h⟩
    have h' : t = s := of_decide_eq_true h
    exact ⟨t, ht, by rw [h', ByteArray.toList_eq]⟩
  · rintro ⟨t, ht, h⟩
    refine ⟨t, ht, decide_eq_true (toList_inj ?_)⟩
    rw [ByteArray.toList_eq]; exact h
set_option maxRecDepth 100000 in
set_option maxHeartbeats 8000000 in
theorem word_hit (w : World) (s : ByteArray) (L : List UInt8) (h : s.toList = L) (hL : L ∈ wordsT) : Calls Tryz.prog 86 #[.string s] w fun e w' => e = .returned (.bool true) ∧ Below w.heap.size w w' := by
  simp only [wordsT, List.mem_cons, List.not_mem_nil, or_false] at hL
  rcases hL with rfl | rfl | rfl | rfl | rfl | rfl | rfl | rfl | rfl | rfl | rfl | rfl | rfl | rfl | rfl | rfl | rfl | rfl | rfl | rfl | rfl | rfl | rfl | rfl | rfl | rfl | rfl | rfl | rfl | rfl | rfl | rfl | rfl | rfl | rfl | rfl | rfl | rfl | rfl | rfl | rfl | rfl | rfl | rfl | rfl | rfl | rfl | rfl | rfl | rfl | rfl | rfl | rfl | rfl | rfl | rfl | rfl | rfl | rfl | rfl | rfl | rfl | rfl | rfl | rfl | rfl | rfl
  all_goals
    go_enter Tryz.func86, Tryz.ntmps86
    go_wp2_with fail
    go_ret
    exact ⟨rfl, Below.refl _ _⟩
set_option maxRecDepth 100000 in
set_option maxHeartbeats 4000000 in
theorem word_miss (w : World) (s : ByteArray) (h : ∀ L ∈ wordsT, (s.toList == L) = false) : Calls Tryz.prog 86 #[.string s] w fun e w' => e = .returned (.bool false) ∧ Below w.heap.size w w' := by
  have q0 := h [97, 108, 108] (by decide)
  have q1 := h [97, 110, 100] (by decide)
  have q2 := h [97, 115] (by decide)
  have q3 := h [98, 101, 103, 105, 110] (by decide)
  have q4 := h [98, 101, 103, 105, 110, 115] (by decide)
  have q5 := h [98, 101, 116, 119, 101, 101, 110] (by decide)
  have q6 := h [98, 121] (by decide)
  have q7 := h [99, 97, 108, 108] (by decide)
  have q8 := h [99, 97, 115, 101] (by decide)
  have q9 := h [99, 97, 116, 99, 104] (by decide)
  have q10 := h [99, 111, 109, 109, 105, 116] (by decide)
  have q11 := h [100, 101, 108, 101, 116, 101] (by decide)
  have q12 := h [100, 101, 115, 99] (by decide)
  have q13 := h [100, 105, 115, 116, 105, 110, 99, 116] (by decide)
  have q14 := h [101, 108, 115, 101] (by decide)
  have q15 := h [101, 110, 100] (by decide)
  have q16 := h [101, 120, 99, 101, 112, 116] (by decide)
  have q17 := h [101, 120, 105, 115, 116, 115] (by decide)
  have q18 := h [102, 111, 114] (by decide)
  have q19 := h [102, 114, 111, 109] (by decide)
  have q20 := h [103, 114, 111, 117, 112] (by decide)
  have q21 := h [104, 97, 118, 105, 110, 103] (by decide)
  have q22 := h [104, 105, 100, 101] (by decide)
  have q23 := h [105, 102] (by decide)
  have q24 := h [105, 110] (by decide)
  have q25 := h [105, 110, 112, 117, 116] (by decide)
  have q26 := h [105, 110, 115, 101, 114, 116] (by decide)
  have q27 := h [105, 110, 116] (by decide)
  have q28 := h [105, 110, 116, 111] (by decide)
  have q29 := h [105, 110, 116, 101, 114, 115, 101, 99, 116] (by decide)
  have q30 := h [105, 115] (by decide)
  have q31 := h [106, 111, 105, 110] (by decide)
  have q32 := h [107, 101, 121] (by decide)
  have q33 := h [108, 101, 102, 116] (by decide)
  have q34 := h [108, 101, 118, 101, 108] (by decide)
  have q35 := h [108, 101, 118, 101, 108, 115] (by decide)
  have q36 := h [108, 105, 109, 105, 116] (by decide)
  have q37 := h [110, 111, 116] (by decide)
  have q38 := h [110, 117, 108, 108] (by decide)
  have q39 := h [111, 110] (by decide)
  have q40 := h [111, 114] (by decide)
  have q41 := h [111, 114, 100, 101, 114] (by decide)
  have q42 := h [112, 114, 105, 110, 99, 105, 112, 97, 108] (by decide)
  have q43 := h [112, 114, 105, 110, 116] (by decide)
  have q44 := h [112, 114, 111, 99] (by decide)
  have q45 := h [114, 97, 105, 115, 101] (by decide)
  have q46 := h [114, 111, 108, 108, 98, 97, 99, 107] (by decide)
  have q47 := h [114, 111, 119, 115] (by decide)
  have q48 := h [115, 101, 108, 101, 99, 116] (by decide)
  have q49 := h [115, 101, 116] (by decide)
  have q50 := h [116, 97, 98, 108, 101] (by decide)
  have q51 := h [116, 101, 120, 116] (by decide)
  have q52 := h [116, 104, 101, 110] (by decide)
  have q53 := h [116, 114, 117, 101] (by decide)
  have q54 := h [116, 114, 121] (by decide)
  have q55 := h [102, 97, 108, 115, 101] (by decide)
  have q56 := h [98, 111, 111, 108] (by decide)
  have q57 := h [117, 110, 105, 111, 110] (by decide)
  have q58 := h [117, 112, 100, 97, 116, 101] (by decide)
  have q59 := h [118, 97, 108, 117, 101, 115] (by decide)
  have q60 := h [118, 97, 114] (by decide)
  have q61 := h [118, 105, 115, 105, 98, 108, 101] (by decide)
  have q62 := h [119, 104, 101, 110] (by decide)
  have q63 := h [119, 104, 101, 114, 101] (by decide)
  have q64 := h [119, 104, 105, 108, 101] (by decide)
  have q65 := h [99, 104, 97, 110, 110, 101, 108] (by decide)
  have q66 := h [115, 107, 105, 112] (by decide)
  clear h
  go_enter Tryz.func86, Tryz.ntmps86
  go_wp2_with fail
  go_ret
  exact ⟨rfl, Below.refl _ _⟩
theorem word_any (w : World) (s : ByteArray) (_ : s.size ≤ maxLen) : Calls Tryz.prog 86 #[.string s] w fun e w' => e = .returned (.bool (wordB s)) ∧ Below w.heap.size w w' := by
  cases hw : wordB s
  · exact word_miss w s fun L hL => by
      rw [beq_eq_false_iff_ne]
      intro e
      have := (wordB_iff s).2 (by rw [e]; exact hL)
      rw [hw] at this
      cases this
  · exact word_hit w s _ rfl ((wordB_iff s).1 hw)

end Go.Proofs.YtailfiofcicloaaGreatDoor

namespace Go.Proofs.YtailfiofcicloaaGreatDoor
open Go.RowKit Go.Sort

/-- A block that a call made, under the next number. -/
theorem step_grow {ρ : Rn} {σ : AW} {w w' : World} (h : Rel ρ σ w) (hb : Below w.heap.size w w') {B cap : Nat} {b : Blk} (hB : w.heap.size ≤ B)
    (hs : ∀ v ∈ b.cells, Sc σ.dom v) (ho : ∀ ρ', Holds ρ' w' (B, cap) b) : ∃ ρ', ρ' σ.next = (B, cap) ∧ Step ρ σ w ρ' (σ.push b) w' := by
  refine ⟨fun j => if j = σ.next then (B, cap) else ρ j, if_pos rfl, ?_⟩
  have hag : ∀ j, j < σ.next → (if j = σ.next then (B, cap) else ρ j) = ρ j := fun j hj => if_neg (by omega)
  have hold : ∀ i, i < w.heap.size → w'.heap[i]? = w.heap[i]? := fun i hi => hb.block i hi
  have hg : ∀ j, (σ.push b).get j = if j = σ.next then b else σ.get j := fun j => by rw [AW.push, AW.get_up, AW.get_set]
  have hl : ∀ j, (σ.push b).live j → j ≠ σ.next → σ.live j := fun j hj hne => by
    unfold AW.live at *; rw [hg, if_neg hne] at hj; exact hj
  have hd : ∀ j, σ.dom j → (σ.push b).dom j := fun j hj => ⟨Nat.lt_succ_of_lt hj.1, by rw [hg, if_neg (Nat.ne_of_lt hj.1)]; exact hj.2⟩
  have hcame : ∀ j, (σ.push b).live j → w.heap.size ≤ (if j = σ.next then (B, cap) else ρ j).1 ∨ ∃ i, σ.live i ∧ (ρ i).1 = (if j = σ.next then (B, cap) else ρ j).1 := fun j hj => by
    by_cases e : j = σ.next
    · exact .inl (by simp [e]; exact hB)
    · exact .inr ⟨j, hl j hj e, by simp [e]⟩
  refine ⟨⟨fun j hj => ?_, fun j hj => ?_, fun i j hi hj e => ?_, fun j hj v hv => ?_, fun j hj => ?_, h.glob.next hb.size hcame (fun i hi _ => hold i hi)⟩, hag, Nat.le_succ _, fun j hj => ?_, hcame, fun i hi _ => hold i hi, hb.os, hb.tape, hb.output, hb.size⟩
  · by_cases e : j = σ.next
    · rw [hg, if_pos e]
      simp only [if_pos e]
      exact ho _
    · rw [hg, if_neg e]
      simp only [if_neg e]
      have hj' := hl j hj e
      exact (h.blk j hj').keep (hold _ (h.blk j hj').lt) (h.sc j hj') (fun i hi => (hag i hi.1).symm)
  · by_cases e : j = σ.next
    · subst e; exact Nat.lt_succ_self _
    · exact Nat.lt_succ_of_lt (h.lt j (hl j hj e))
  · by_cases e1 : i = σ.next
    · by_cases e2 : j = σ.next
      · rw [e1, e2]
      · have := (h.blk j (hl j hj e2)).lt
        simp only [if_pos e1, if_neg e2] at e
        omega
    · by_cases e2 : j = σ.next
      · have := (h.blk i (hl i hi e1)).lt
        simp only [if_neg e1, if_pos e2] at e
        omega
      · simp only [if_neg e1, if_neg e2] at e
        exact h.inj i j (hl i hi e1) (hl j hj e2) e
  · rw [hg] at hv
    by_cases e : j = σ.next
    · rw [if_pos e] at hv
      exact (hs v hv).mono hd
    · rw [if_neg e] at hv
      exact (h.sc j (hl j hj e) v hv).mono hd
  · rw [hg, if_neg (by have : σ.next + 1 ≤ j := hj; omega)]
    exact h.fit j (by have : σ.next + 1 ≤ j := hj; omega)
  · rw [hg, if_neg (Nat.ne_of_lt hj)]
theorem enters {g : Nat} {fn : Func} (hf : Tryz.prog.funcs[g]? = some fn) (hN : (fn.name == "runtime.NumGoroutine") = false) (hb : fn.body.isSome = true) (args : Array Value) (w : World) : (callFunc g args).run Tryz.prog w = .ok (.enter g args) w := by
  unfold callFunc
  have h2 : fn.body.isNone = false := by cases hq : fn.body with | none => rw [hq] at hb; cases hb | some c => rfl
  simp only [Sem.run_bind, run_program, Result.andThen_ok, hf, hN, h2, Bool.false_eq_true, if_false, Sem.run_pure]
theorem word_all (w : World) (s : ByteArray) : Calls Tryz.prog 86 #[.string s] w fun e w' => e = .returned (.bool (wordB s)) ∧ Below w.heap.size w w' := by
  cases hw : wordB s
  · exact word_miss w s fun L hL => by
      rw [beq_eq_false_iff_ne]
      intro e
      have := (wordB_iff s).2 (by rw [e]; exact hL)
      rw [hw] at this
      cases this
  · exact word_hit w s _ rfl ((wordB_iff s).1 hw)
theorem word_c : WordOK := by
  intro σ x
  refine ⟨_, _, ⟨fun args w => enters Tryz.func86 rfl rfl args w, fun ρ w hR _ => ?_⟩, rfl, rfl⟩
  refine Calls.mono (word_all w x) ?_
  rintro e w' ⟨rfl, hb⟩
  exact ⟨ρ, rfl, step_below hR hb, (flatB_fl (v := .bool (wordB x)) rfl).sc _⟩
/-- The tokens that a text has: the last one is the end. -/
theorem scanF_last : ∀ (f : Nat) (l : List UInt8) (o k : Nat), (scanF f l o k).2.2 = 0 → k ≤ 6001 → (∃ T e, (scanF f l o k).1 = T ++ [((0, ⟨#[]⟩, 0, e) : Tk)]) ∧ (scanF f l o k).1.length + k ≤ 6001
  | 0, _, _, _, h, _ => by simp [scanF] at h
  | f + 1, [], o, k, h, hk => by
    unfold scanF at h ⊢
    split at h
    · simp at h
    · rename_i h6
      rw [if_neg h6]
      exact ⟨⟨[], (o : Int), rfl⟩, by simp; omega⟩
  | f + 1, c :: r, o, k, h, hk => by
    unfold scanF at h ⊢
    split at h
    · rename_i hb
      rw [if_pos hb]
      exact scanF_last f r (o + 1) k h hk
    · rename_i hb
      rw [if_neg hb]
      split at h
      · rename_i hm
        rw [if_pos hm]
        exact scanF_last f _ _ k h hk
      · rename_i hm
        rw [if_neg hm]
        split at h
        · simp at h
        · rename_i kind t n len e
          split at h
          · simp at h
          · rename_i h6
            rw [if_neg h6]
            by_cases h0 : (scanF f ((c :: r).drop len) (o + len) (k + 1)).2.2 = 0
            · obtain ⟨⟨T, e', h1⟩, h2⟩ := scanF_last f _ _ (k + 1) h0 (by omega)
              unfold aheadT
              rw [if_pos h0, h1]
              rw [h1] at h2
              refine ⟨⟨_ :: T, e', rfl⟩, ?_⟩
              simp only [List.length_append, List.length_cons, List.length_nil] at h2 ⊢
              omega
            · unfold aheadT at h
              rw [if_neg h0] at h
              exact absurd h h0
theorem scanF_bad : ∀ (f : Nat) (l : List UInt8) (o k : Nat), (scanF f l o k).2.2 ≠ 0 → (scanF f l o k).1 = [] := fun f l o k => (scanF_form f l o k).2
theorem scanS_last (s : ByteArray) (h : (scanS s).2.2 = 0) : (∃ T e, (scanS s).1 = T ++ [((0, ⟨#[]⟩, 0, e) : Tk)]) ∧ (scanS s).1.length ≤ 6001 := by
  unfold scanS at h ⊢
  split at h
  · simp at h
  · rename_i h6
    rw [if_neg h6]
    exact scanF_last _ _ _ 0 h (by omega)
theorem scanS_bad (s : ByteArray) (h : (scanS s).2.2 ≠ 0) : (scanS s).1 = [] := by
  unfold scanS at h ⊢
  split at h
  · rename_i h6
    rw [if_pos h6]
  · rename_i h6
    rw [if_neg h6]
    exact scanF_bad _ _ _ _ h
theorem flat_tk (T : List Tk) : (flatT T).all flat1 = true := by
  induction T with
  | nil => rfl
  | cons t T ih =>
    show ((tkCells t ++ flatT T).all flat1) = true
    rw [List.all_append, ih]
    rfl
theorem gcells_tk (T : List Tk) : gcells encT T = flatT T := rfl
theorem glob_max {ρ : Rn} {σ : AW} {w : World} (hR : Rel ρ σ w) : HasMax w := by
  obtain ⟨_, _, h⟩ := hR.glob rfl
  exact h
theorem scan_c (σ : AW) (s : ByteArray) (hs : s.size ≤ 1000000) : C Tryz.prog 20 [.string s] σ fun v σ' =>
    (((scanS s).2.2 ≠ 0 ∧ v = .tuple ⟨[.slice none 0 0, .int .i64 ((scanS s).2.1 : Int), .int .i64 (scanS s).2.2]⟩ ∧ σ' = σ) ∨
     ((scanS s).2.2 = 0 ∧ v = .tuple ⟨[.slice (some ⟨σ.next, 0, none⟩) (scanS s).1.length 1, .int .i64 ((scanS s).2.1 : Int), .int .i64 (scanS s).2.2]⟩ ∧ σ' = σ.push ⟨2, 67, 4, flatT (scanS s).1⟩)) := by
  by_cases h0 : (scanS s).2.2 = 0
  · refine ⟨_, _, ⟨fun args w => enters Tryz.func20 rfl rfl args w, fun ρ w hR _ => ?_⟩, .inr ⟨h0, rfl, rfl⟩⟩
    refine Calls.mono (scan_own w s hs (.inl (glob_max hR))) ?_
    rintro e w' ⟨v, rfl, ho, _, hb⟩
    obtain ⟨⟨T, e', hT⟩, _⟩ := scanS_last s h0
    rcases ho.2 with ⟨_, hn⟩ | ⟨g, cap, cur, rfl, hg, hc, hle, _, hsz, htk⟩
    · rw [hT] at hn
      simp at hn
    · rw [gcells_tk] at htk
      obtain ⟨ρ', h1, hst⟩ := step_grow (cap := cap) (b := ⟨2, 67, 4, flatT (scanS s).1⟩) hR hb hg (fun v hv => (flat1_fl (List.all_eq_true.1 (flat_tk _) v hv)).sc _) (fun ρ' => by
        show ∃ rest, _
        refine ⟨cur.toList.drop ((scanS s).1.length * 4), ?_, ?_⟩
        · rw [map_fl (flat_tk _), ← htk, List.take_append_drop]
          exact hc
        · show (flatT _).length + _ = cap * 4
          rw [flatT_length, List.length_drop, Array.length_toList, hsz]
          omega)
      refine ⟨ρ', ?_, hst, sc_tuple fun u hu => ?_⟩
      · rw [ren_tuple]
        simp only [List.map_toArray, List.map_cons, List.map_nil, ren_int, ren_slice, renB, capR, h1]
        rfl
      · simp only [List.mem_cons, List.not_mem_nil, or_false] at hu
        rcases hu with rfl | rfl | rfl
        · refine sc_slice ⟨Nat.lt_succ_self _, ?_⟩
          rw [push_eq]
          exact (by decide : (2 : Nat) ≠ 4)
        · exact (flat1_fl rfl).sc _
        · exact (flat1_fl rfl).sc _
  · refine ⟨_, _, ⟨fun args w => enters Tryz.func20 rfl rfl args w, fun ρ w hR _ => ?_⟩, .inl ⟨h0, rfl, rfl⟩⟩
    refine Calls.mono (scan_own w s hs (.inl (glob_max hR))) ?_
    rintro e w' ⟨v, rfl, ho, hv, hb⟩
    have := hv (scanS_bad s h0)
    subst this
    refine ⟨ρ, rfl, step_below hR hb, sc_tuple fun u hu => ?_⟩
    simp only [List.mem_cons, List.not_mem_nil, or_false] at hu
    rcases hu with rfl | rfl | rfl <;> exact (flat1_fl rfl).sc _
end Go.Proofs.YtailfiofcicloaaGreatDoor
