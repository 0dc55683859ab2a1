/- Contracts of the program's takeMark and takeText. Contract of the program's take. Contract of the document's Same. What the program's Scan does at each pass, in plain words; Clone; take at the end too. -/
import Derived.Test.YtailfiofcicloaaGreatDoorR13
import Derived.ScopeJumps

namespace Go.Proofs.YtailfiofcicloaaGreatDoor
open Go.RowKit Go.Sort

def secondN : List UInt8 → Nat
  | [] => 0
  | x :: _ => x.toNat
theorem byte_ne {c : UInt8} {k : Nat} (h : ¬ c.toNat = k) (hk : k < 256) : (UInt8.ofNat k == c) = false := by
  rw [beq_eq_false_iff_ne]
  intro e
  apply h
  rw [← e]
  simp; omega
theorem byte_is {c : UInt8} {k : Nat} (h : c.toNat = k) : c = UInt8.ofNat k := by
  subst h; simp
theorem find_mark (c : UInt8) (r : List UInt8) : marksL.find? (fun m => m.isPrefixOf (c :: r)) = if markC c.toNat (secondN r) = 0 then none else some ((c :: r).take (markC c.toNat (secondN r))) := by
  rcases mark_cases c.toNat with h | h | h | h | h | h | h | h | h | h | h | h | h | h | h | h | h | h
  · have hc := byte_is h; subst hc
    cases r with
    | nil => rfl
    | cons x q =>
      by_cases hx : x.toNat = 124
      · have := byte_is hx; subst this; rfl
      · have e : ((124 : UInt8) == x) = false := byte_ne hx (by decide)
        have e2 : markC (UInt8.ofNat 124).toNat (secondN (x :: q)) = 0 := by show markC 124 x.toNat = 0; simp [markC, hx]
        rw [e2]
        simp [marksL, List.find?, List.isPrefixOf, e]
  · have hc := byte_is h; subst hc
    cases r with
    | nil => rfl
    | cons x q =>
      by_cases hx : x.toNat = 62
      · have := byte_is hx; subst this; rfl
      · by_cases hy : x.toNat = 61
        · have := byte_is hy; subst this; rfl
        · have e : ((62 : UInt8) == x) = false := byte_ne hx (by decide)
          have e' : ((61 : UInt8) == x) = false := byte_ne hy (by decide)
          have e2 : markC (UInt8.ofNat 60).toNat (secondN (x :: q)) = 1 := by show markC 60 x.toNat = 1; simp [markC, hx, hy]
          rw [e2]
          simp [marksL, List.find?, List.isPrefixOf, e, e']
  · have hc := byte_is h; subst hc
    cases r with
    | nil => rfl
    | cons x q =>
      by_cases hy : x.toNat = 61
      · have := byte_is hy; subst this; rfl
      · have e' : ((61 : UInt8) == x) = false := byte_ne hy (by decide)
        have e2 : markC (UInt8.ofNat 62).toNat (secondN (x :: q)) = 1 := by show markC 62 x.toNat = 1; simp [markC, hy]
        rw [e2]
        simp [marksL, List.find?, List.isPrefixOf, e']
  iterate 14
    · have hc := byte_is h; subst hc
      rfl
  · have e2 : markC c.toNat (secondN r) = 0 := by unfold markC; simp only [h, false_or, if_false]
    rw [e2, if_pos rfl]
    have hall : ∀ m ∈ marksL, ∃ k q, m = UInt8.ofNat k :: q ∧ k < 256 ∧ (k = 124 ∨ k = 60 ∨ k = 62 ∨ k = 40 ∨ k = 41 ∨ k = 44 ∨ k = 59 ∨ k = 46 ∨ k = 42 ∨ k = 43 ∨ k = 45 ∨ k = 47 ∨ k = 37 ∨ k = 61 ∨ k = 123 ∨ k = 125 ∨ k = 58) := by
      intro m hm
      simp only [marksL, List.mem_cons, List.not_mem_nil, or_false] at hm
      rcases hm with rfl | rfl | rfl | rfl | rfl | rfl | rfl | rfl | rfl | rfl | rfl | rfl | rfl | rfl | rfl | rfl | rfl | rfl | rfl | rfl
      · exact ⟨124, _, rfl, by decide, by decide⟩
      · exact ⟨60, _, rfl, by decide, by decide⟩
      · exact ⟨60, _, rfl, by decide, by decide⟩
      · exact ⟨62, _, rfl, by decide, by decide⟩
      · exact ⟨40, _, rfl, by decide, by decide⟩
      · exact ⟨41, _, rfl, by decide, by decide⟩
      · exact ⟨44, _, rfl, by decide, by decide⟩
      · exact ⟨59, _, rfl, by decide, by decide⟩
      · exact ⟨46, _, rfl, by decide, by decide⟩
      · exact ⟨42, _, rfl, by decide, by decide⟩
      · exact ⟨43, _, rfl, by decide, by decide⟩
      · exact ⟨45, _, rfl, by decide, by decide⟩
      · exact ⟨47, _, rfl, by decide, by decide⟩
      · exact ⟨37, _, rfl, by decide, by decide⟩
      · exact ⟨61, _, rfl, by decide, by decide⟩
      · exact ⟨60, _, rfl, by decide, by decide⟩
      · exact ⟨62, _, rfl, by decide, by decide⟩
      · exact ⟨123, _, rfl, by decide, by decide⟩
      · exact ⟨125, _, rfl, by decide, by decide⟩
      · exact ⟨58, _, rfl, by decide, by decide⟩
    rw [List.find?_eq_none]
    intro m hm hp
    obtain ⟨k, q, rfl, hk, hor⟩ := hall m hm
    rw [List.isPrefixOf] at hp
    have hne : ¬ c.toNat = k := by omega
    rw [byte_ne hne hk] at hp
    simp at hp

theorem byte_head (s : ByteArray) (h : 0 < s.size) : s.data.toList = s[0] :: s.data.toList.drop 1 := by
  have := byte_at s h
  simpa using this
theorem second_at (s : ByteArray) : secondN (s.data.toList.drop 1) = if h : 1 < s.size then s[1].toNat else 0 := by
  by_cases h : 1 < s.size
  · rw [dif_pos h, byte_at s h]; rfl
  · rw [dif_neg h, List.drop_eq_nil_of_le (by simp; omega)]; rfl
/-- The mark at the front. -/
def markL (l : List UInt8) : (Int × List UInt8 × Nat × Nat) ⊕ Nat := match marksL.find? (fun m => m.isPrefixOf l) with
  | some m => .inl (4, m, 0, m.length)
  | none => .inr 0
set_option maxHeartbeats 1000000 in
theorem takeMark_any (w : World) (s : ByteArray) (h0 : 0 < s.size) (hs : s.size ≤ 1000000) :
    Calls Tryz.prog 80 #[.string s] w fun e w' => e = .returned (takeV (markL s.data.toList)) ∧ Below w.heap.size w w' := by
  have a1 := markSize_any (w.alloc (.cells #[.int .i64 0, .string ⟨#[]⟩, .int .i64 0, .int .i64 0] 67)) s h0 hs
  have HF := find_mark s[0] (s.data.toList.drop 1)
  rw [← byte_head s h0, second_at] at HF
  have hle : markC s[0].toNat (if h : 1 < s.size then s[1].toNat else 0) ≤ s.size := by
    refine Classical.byContradiction fun hn => ?_
    have h2 : markC s[0].toNat (if h : 1 < s.size then s[1].toNat else 0) ≤ 2 := by unfold markC; (repeat' split) <;> omega
    have h1 : s.size = 1 := by omega
    rw [dif_neg (by omega)] at hn
    have : markC s[0].toNat 0 ≤ 1 := by unfold markC; (repeat' split) <;> omega
    omega
  generalize markC s[0].toNat (if h : 1 < s.size then s[1].toNat else 0) = n at a1 HF hle
  have i0 : (0 : Int) ≤ (n : Int) := by omega
  have i1 : (n : Int) ≤ (s.size : Int) := by omega
  have HE : Hid (s.extract 0 n = ⟨(s.data.toList.take n).toArray⟩) := extract_front s n
  by_cases h : n = 0
  · have q : ((n : Int) == 0) = true := by rw [h]; rfl
    have HM : Hid (markL s.data.toList = .inr 0) := by show markL _ = _; unfold markL; rw [HF, if_pos h]
    clear HF h
    go_enter Tryz.func80, Tryz.ntmps80
    go_wp2_with fail
    refine a1.mono ?_
    rintro e w1 ⟨rfl, hw1⟩
    subst w1
    go_wp2_with fail
    exact bodyPost_ret (v := takeV (.inr 0)) (by simp [results, Tryz.results80, go_sem, takeV]) rfl ⟨by rw [HM.out], ((Below.refl _ _).alloc (Nat.le_refl _) _)⟩
  · have q : ((n : Int) == 0) = false := by rw [beq_eq_false_iff_ne]; omega
    have HM : Hid (markL s.data.toList = .inl (4, s.data.toList.take n, 0, n)) := by
      show markL _ = _
      unfold markL
      rw [HF, if_neg h]
      simp only [List.length_take, Array.length_toList]
      rw [Nat.min_eq_left (by simpa using hle)]
    clear HF h
    go_enter Tryz.func80, Tryz.ntmps80
    go_wp2_with fail
    refine a1.mono ?_
    rintro e w1 ⟨rfl, hw1⟩
    subst w1
    go_wp2_with fail
    exact bodyPost_ret (v := takeV (.inl (4, s.data.toList.take n, 0, n))) (by simp [results, Tryz.results80, go_sem, takeV, HE.out]) rfl ⟨by rw [HM.out], ((Below.refl _ _).alloc (Nat.le_refl _) _)⟩

/-- The text at the front. -/
def quoteL (l : List UInt8) : (Int × List UInt8 × Nat × Nat) ⊕ Nat := match textP l with
  | .inl (b, n) => .inl (3, b, 0, n)
  | .inr k => .inr k
/-- The library's count of bytes that it goes over at a time. -/
def HasMax (w : World) : Prop := ∃ m : Int, w.cell? ⟨0, 0, none⟩ = some (.int .i64 m)
theorem HasMax.keep {w w' : World} (h : HasMax w) (k : Below w.heap.size w w') : HasMax w' := by
  obtain ⟨m, hm⟩ := h
  exact ⟨m, cell_keep hm k⟩
theorem bset4 {a b : World} {q : Nat} (h : Below a.heap.size a b) (hq : a.heap.size ≤ q) (x0 x1 x2 x3 : Value) : Below a.heap.size a ((((b.setCell ⟨q, 0, none⟩ x0).setCell ⟨q, 1, none⟩ x1).setCell ⟨q, 2, none⟩ x2).setCell ⟨q, 3, none⟩ x3) :=
  (((h.setCell hq x0).setCell hq x1).setCell hq x2).setCell hq x3

set_option maxRecDepth 100000 in
set_option maxHeartbeats 4000000 in
theorem takeText_any (w : World) (hm : HasMax w) (s : ByteArray) (h0 : 0 < s.size) (h39 : s[0].toNat = 39) (hs : s.size ≤ 1000000) :
    Calls Tryz.prog 79 #[.string s] w fun e w' => e = .returned (takeV (quoteL s.data.toList)) ∧ Below w.heap.size w w' := by
  have a1 := spanQ_any (w.alloc (.cells #[.int .i64 0, .string ⟨#[]⟩, .int .i64 0, .int .i64 0] 67)) s hs
  rw [show (w.alloc (.cells #[.int .i64 0, .string ⟨#[]⟩, .int .i64 0, .int .i64 0] 67)).heap.size = w.heap.size + 1 from by simp] at a1
  have hle : (qrun false s.data.toList).1 ≤ s.size := by have := qrun_le false s.data.toList; simpa using this
  have h2 : (qrun false s.data.toList).2 = false → 2 ≤ (qrun false s.data.toList).1 := by rw [byte_head s h0]; exact qrun_two h39
  have HQ : Hid (textP s.data.toList = if (qrun false s.data.toList).2 = true then .inr 0
    else if 1000 < (saidP s.data.toList).length then .inr 0
    else if runN mayB (s.data.toList.take (qrun false s.data.toList).1) < (qrun false s.data.toList).1 then .inr (runN mayB (s.data.toList.take (qrun false s.data.toList).1))
    else .inl (saidP s.data.toList, (qrun false s.data.toList).1)) := rfl
  have HS : Hid (saidP s.data.toList = Lib.replaceAll ((s.data.toList.take ((qrun false s.data.toList).1 - 1)).drop 1) [39, 39] [39]) := rfl
  generalize qrun false s.data.toList = nb at a1 hle h2 HQ HS
  obtain ⟨n, o⟩ := nb
  dsimp only at a1 hle h2 HQ HS
  cases o
  · replace h2 := h2 rfl
    simp only [Bool.false_eq_true, if_false] at HQ
    have HX : Hid ((s.extract 1 (n - 1)).data.toList = (s.data.toList.take (n - 1)).drop 1) := by
      show (s.extract 1 (n - 1)).data.toList = _
      rw [extract_mid]
      simp [List.drop_take]
    have hxs : (s.extract 1 (n - 1)).size ≤ 1000000 := by simp; omega
    have hW : Below w.heap.size w ((w.alloc (.cells #[.int .i64 0, .string ⟨#[]⟩, .int .i64 0, .int .i64 0] 67)).alloc (.cells #[.bool false] 4)) := ((Below.refl _ _).alloc (Nat.le_refl _) _).alloc (by simp) _
    obtain ⟨m, hm'⟩ := hm.keep hW
    have a2 := Tryz.strings_ReplaceAll (s.extract 1 (n - 1)) ⟨#[39, 39]⟩ ⟨#[39]⟩ m _ (by omega) hm' (by decide) (by
      have := Lib.countB_le ⟨#[39, 39]⟩ (by decide) _ (s.extract 1 (n - 1)) (Nat.le_refl _)
      show _ + _ * 1 ≤ _
      omega)
    rw [HX.out] at a2
    have e3 : Lib.replaceAll ((s.data.toList.take (n - 1)).drop 1) (⟨#[39, 39]⟩ : ByteArray).data.toList (⟨#[39]⟩ : ByteArray).data.toList = saidP s.data.toList := HS.out.symm
    rw [e3] at a2
    clear e3 HS HX hm'
    generalize saidP s.data.toList = sd at a2 HQ
    have j0 : (1 : Int) ≤ (n : Int) - 1 := by omega
    have j1 : (n : Int) - 1 ≤ (s.size : Int) := by omega
    have j2 : (n : Int) ≤ (s.size : Int) := by omega
    have j3 : (0 : Int) ≤ (n : Int) := by omega
    have hsz : (⟨sd.toArray⟩ : ByteArray).size = sd.length := by simp [ByteArray.size]
    have a3 := fun w' => span_may w' (s.extract 0 n) (by simp; omega)
    rw [show (s.extract 0 n).data.toList = s.data.toList.take n from by rw [extract_front]] at a3
    have hrl : runN mayB (s.data.toList.take n) ≤ n := by have := runN_le mayB (s.data.toList.take n); simp at this; omega
    generalize runN mayB (s.data.toList.take n) = r at a3 HQ hrl
    by_cases hl : 1000 < sd.length
    · have q : decide ((1000 : Int) < ((⟨sd.toArray⟩ : ByteArray).size : Int)) = true := by rw [hsz]; simp; omega
      have HR : Hid (quoteL s.data.toList = .inr 0) := by show quoteL _ = _; unfold quoteL; rw [HQ.out, if_pos hl]
      clear HQ h2 hl hsz
      generalize (⟨sd.toArray⟩ : ByteArray) = sb at *
      go_enter Tryz.func79, Tryz.ntmps79
      go_wp2_with fail
      refine a1.mono ?_
      rintro e w1 ⟨rfl, hw1⟩
      subst w1
      go_wp2_with fail
      refine a2.mono ?_
      rintro e w3 ⟨rfl, b3⟩
      have t0 : TokAt w3 w.heap.size 0 ⟨#[]⟩ 0 0 := TokAt.keep (TokAt.alloc (heap_alloc_new w _) _) b3
      obtain ⟨c0, c1, c2, c3⟩ := t0.cells
      have hf := t0.frozen
      clear t0
      go_wp2_with fail
      exact bodyPost_ret (v := takeV (.inr 0)) (by simp [results, Tryz.results79, go_sem, takeV, c0, c1, c2, c3]) rfl ⟨by rw [HR.out], bset4 (btrans hW b3) (Nat.le_refl _) _ _ _ _⟩
    · have q : decide ((1000 : Int) < ((⟨sd.toArray⟩ : ByteArray).size : Int)) = false := by rw [hsz]; simp; omega
      by_cases hr : r < n
      · have q2 : decide ((r : Int) < (n : Int)) = true := by simp; omega
        have HR : Hid (quoteL s.data.toList = .inr r) := by show quoteL _ = _; unfold quoteL; rw [HQ.out, if_neg hl, if_pos hr]
        clear HQ h2 hl hsz
        generalize (⟨sd.toArray⟩ : ByteArray) = sb at *
        go_enter Tryz.func79, Tryz.ntmps79
        go_wp2_with fail
        refine a1.mono ?_
        rintro e w1 ⟨rfl, hw1⟩
        subst w1
        go_wp2_with fail
        refine a2.mono ?_
        rintro e w3 ⟨rfl, b3⟩
        have t0 : TokAt w3 w.heap.size 0 ⟨#[]⟩ 0 0 := TokAt.keep (TokAt.alloc (heap_alloc_new w _) _) b3
        obtain ⟨c0, c1, c2, c3⟩ := t0.cells
        have hf := t0.frozen
        clear t0
        go_wp2_with fail
        refine (a3 w3).mono ?_
        rintro e w1 ⟨rfl, hw1⟩
        subst w1
        go_wp2_with fail
        exact bodyPost_ret (v := takeV (.inr r)) (by simp [results, Tryz.results79, go_sem, takeV, c0, c1, c2, c3]) rfl ⟨by rw [HR.out], bset4 (btrans hW b3) (Nat.le_refl _) _ _ _ _⟩
      · have q2 : decide ((r : Int) < (n : Int)) = false := by simp; omega
        have HR : Hid (takeV (quoteL s.data.toList) = .tuple #[T4 3 ⟨sd.toArray⟩ 0 0, .int .i64 (n : Int), .int .i64 (-1)]) := by show takeV (quoteL _) = _; unfold quoteL; rw [HQ.out, if_neg hl, if_neg hr]; rfl
        clear HQ h2 hl hsz
        generalize (⟨sd.toArray⟩ : ByteArray) = sb at *
        go_enter Tryz.func79, Tryz.ntmps79
        go_wp2_with fail
        refine a1.mono ?_
        rintro e w1 ⟨rfl, hw1⟩
        subst w1
        go_wp2_with fail
        refine a2.mono ?_
        rintro e w3 ⟨rfl, b3⟩
        have t0 : TokAt w3 w.heap.size 0 ⟨#[]⟩ 0 0 := TokAt.keep (TokAt.alloc (heap_alloc_new w _) _) b3
        obtain ⟨c0, c1, c2, c3⟩ := t0.cells
        have hf := t0.frozen
        clear t0
        go_wp2_with fail
        refine (a3 w3).mono ?_
        rintro e w1 ⟨rfl, hw1⟩
        subst w1
        go_wp2_with fail
        exact bodyPost_ret (v := .tuple #[T4 3 sb 0 0, .int .i64 (n : Int), .int .i64 (-1)]) (by simp [results, Tryz.results79, go_sem, c0, c1, c2, c3]) rfl ⟨by rw [HR.out], bset4 (btrans hW b3) (Nat.le_refl _) _ _ _ _⟩
  · have HR : Hid (quoteL s.data.toList = .inr 0) := by show quoteL _ = _; unfold quoteL; rw [HQ.out]; rfl
    clear HQ HS h2
    go_enter Tryz.func79, Tryz.ntmps79
    go_wp2_with fail
    refine a1.mono ?_
    rintro e w1 ⟨rfl, hw1⟩
    subst w1
    go_wp2_with fail
    exact bodyPost_ret (v := takeV (.inr 0)) (by simp [results, Tryz.results79, go_sem, takeV]) rfl ⟨by rw [HR.out], ((Below.refl _ _).alloc (Nat.le_refl _) _).alloc (by simp) _⟩

end Go.Proofs.YtailfiofcicloaaGreatDoor

namespace Go.Proofs.YtailfiofcicloaaGreatDoor
open Go.RowKit Go.Sort

theorem take_nil (w : World) : Calls Tryz.prog 43 #[.string ⟨#[]⟩] w fun e w' => e = .returned (.tuple #[T4 0 ⟨#[]⟩ 0 0, .int .i64 0, .int .i64 (-1)]) ∧ Below w.heap.size w w' := by
  go_enter Tryz.func43, Tryz.ntmps43
  go_wp2_with fail
  exact bodyPost_ret (v := .tuple #[T4 0 ⟨#[]⟩ 0 0, .int .i64 0, .int .i64 (-1)]) (by simp [results, Tryz.results43, go_sem]) rfl ⟨rfl, (Below.refl _ _).alloc (Nat.le_refl _) _⟩
theorem bytes_ne {s : ByteArray} (h0 : 0 < s.size) : (s.toList == ([] : List UInt8)) = false := by
  rw [beq_eq_false_iff_ne]
  intro h
  rw [empty_of h] at h0
  exact absurd h0 (by decide)

set_option maxRecDepth 100000 in
set_option maxHeartbeats 4000000 in
theorem take_any (w : World) (s : ByteArray) (h0 : 0 < s.size) (hm : HasMax w ∨ s[0].toNat ≠ 39) (hs : s.size ≤ 1000000) :
    Calls Tryz.prog 43 #[.string s] w fun e w' => e = .returned (takeV (oneL s.data.toList)) ∧ Below w.heap.size w w' := by
  have hl := letter_any (w.alloc (.cells #[.int .i64 0, .string ⟨#[]⟩, .int .i64 0, .int .i64 0] 67)) s[0]
  have hd := digit_any (w.alloc (.cells #[.int .i64 0, .string ⟨#[]⟩, .int .i64 0, .int .i64 0] 67)) s[0]
  have hne := bytes_ne h0
  have i0 : (0 : Int) < (s.size : Int) := by omega
  have HO : Hid (oneL s.data.toList = oneC s[0] (s.data.toList.drop 1)) := by
    show oneL _ = _
    conv => lhs; rw [byte_head s h0]
    rfl
  have hW : Below w.heap.size w (w.alloc (.cells #[.int .i64 0, .string ⟨#[]⟩, .int .i64 0, .int .i64 0] 67)) := (Below.refl _ _).alloc (Nat.le_refl _) _
  cases hL : letterB s[0]
  · rw [hL] at hl
    cases hD : digitB s[0]
    · rw [hD] at hd
      by_cases h39 : s[0].toNat = 39
      · have q : ((s[0].toNat : Int) == 39) = true := by rw [h39]; rfl
        have a := takeText_any (w.alloc (.cells #[.int .i64 0, .string ⟨#[]⟩, .int .i64 0, .int .i64 0] 67)) ((hm.resolve_right (fun h => h h39)).keep hW) s h0 h39 hs
        have HR : Hid (oneL s.data.toList = quoteL s.data.toList) := by
          show oneL _ = _
          rw [HO.out]
          unfold oneC quoteL
          rw [hL, hD, ← byte_head s h0]
          simp only [h39, Bool.false_eq_true, if_false, if_true]
          generalize textP s.data.toList = z
          rcases z with ⟨b, n⟩ | k <;> rfl
        clear h39 hL hD hm
        rw [← HR.out] at a
        generalize oneL s.data.toList = R at a
        clear HO HR
        match R, a with
        | .inl (kind, tx, n, len), a =>
          simp only [takeV] at a ⊢
          go_enter Tryz.func43, Tryz.ntmps43
          go_wp2_with fail
          refine hl.mono ?_
          rintro e w1 ⟨rfl, hw1⟩
          subst w1
          go_wp2_with fail
          refine hd.mono ?_
          rintro e w1 ⟨rfl, hw1⟩
          subst w1
          go_wp2_with fail
          refine a.mono ?_
          rintro e w3 ⟨rfl, b3⟩
          have t0 : TokAt w3 w.heap.size 0 ⟨#[]⟩ 0 0 := TokAt.keep (heap_alloc_new w _) b3
          obtain ⟨c0, c1, c2, c3⟩ := t0.cells
          have hf := t0.frozen
          clear t0
          go_wp2_with fail
          exact bodyPost_ret (v := .tuple #[T4 kind ⟨tx.toArray⟩ (n : Int) 0, .int .i64 (len : Int), .int .i64 (-1)]) (by simp [results, Tryz.results43, go_sem, c0, c1, c2, c3]) rfl ⟨rfl, bset4 (btrans hW b3) (Nat.le_refl _) _ _ _ _⟩
        | .inr d, a =>
          simp only [takeV] at a ⊢
          go_enter Tryz.func43, Tryz.ntmps43
          go_wp2_with fail
          refine hl.mono ?_
          rintro e w1 ⟨rfl, hw1⟩
          subst w1
          go_wp2_with fail
          refine hd.mono ?_
          rintro e w1 ⟨rfl, hw1⟩
          subst w1
          go_wp2_with fail
          refine a.mono ?_
          rintro e w3 ⟨rfl, b3⟩
          have t0 : TokAt w3 w.heap.size 0 ⟨#[]⟩ 0 0 := TokAt.keep (heap_alloc_new w _) b3
          obtain ⟨c0, c1, c2, c3⟩ := t0.cells
          have hf := t0.frozen
          clear t0
          go_wp2_with fail
          exact bodyPost_ret (v := .tuple #[T4 0 ⟨#[]⟩ 0 0, .int .i64 0, .int .i64 (d : Int)]) (by simp [results, Tryz.results43, go_sem, c0, c1, c2, c3]) rfl ⟨rfl, bset4 (btrans hW b3) (Nat.le_refl _) _ _ _ _⟩
      · have q : ((s[0].toNat : Int) == 39) = false := by rw [beq_eq_false_iff_ne]; omega
        have a := takeMark_any (w.alloc (.cells #[.int .i64 0, .string ⟨#[]⟩, .int .i64 0, .int .i64 0] 67)) s h0 hs
        have HR : Hid (oneL s.data.toList = markL s.data.toList) := by
          show oneL _ = _
          rw [HO.out]
          unfold oneC markL
          rw [hL, hD, ← byte_head s h0]
          simp only [h39, Bool.false_eq_true, if_false]
          generalize marksL.find? (fun m => m.isPrefixOf s.data.toList) = z
          cases z <;> rfl
        clear h39 hL hD hm
        rw [← HR.out] at a
        generalize oneL s.data.toList = R at a
        clear HO HR
        match R, a with
        | .inl (kind, tx, n, len), a =>
          simp only [takeV] at a ⊢
          go_enter Tryz.func43, Tryz.ntmps43
          go_wp2_with fail
          refine hl.mono ?_
          rintro e w1 ⟨rfl, hw1⟩
          subst w1
          go_wp2_with fail
          refine hd.mono ?_
          rintro e w1 ⟨rfl, hw1⟩
          subst w1
          go_wp2_with fail
          refine a.mono ?_
          rintro e w3 ⟨rfl, b3⟩
          have t0 : TokAt w3 w.heap.size 0 ⟨#[]⟩ 0 0 := TokAt.keep (heap_alloc_new w _) b3
          obtain ⟨c0, c1, c2, c3⟩ := t0.cells
          have hf := t0.frozen
          clear t0
          go_wp2_with fail
          exact bodyPost_ret (v := .tuple #[T4 kind ⟨tx.toArray⟩ (n : Int) 0, .int .i64 (len : Int), .int .i64 (-1)]) (by simp [results, Tryz.results43, go_sem, c0, c1, c2, c3]) rfl ⟨rfl, bset4 (btrans hW b3) (Nat.le_refl _) _ _ _ _⟩
        | .inr d, a =>
          simp only [takeV] at a ⊢
          go_enter Tryz.func43, Tryz.ntmps43
          go_wp2_with fail
          refine hl.mono ?_
          rintro e w1 ⟨rfl, hw1⟩
          subst w1
          go_wp2_with fail
          refine hd.mono ?_
          rintro e w1 ⟨rfl, hw1⟩
          subst w1
          go_wp2_with fail
          refine a.mono ?_
          rintro e w3 ⟨rfl, b3⟩
          have t0 : TokAt w3 w.heap.size 0 ⟨#[]⟩ 0 0 := TokAt.keep (heap_alloc_new w _) b3
          obtain ⟨c0, c1, c2, c3⟩ := t0.cells
          have hf := t0.frozen
          clear t0
          go_wp2_with fail
          exact bodyPost_ret (v := .tuple #[T4 0 ⟨#[]⟩ 0 0, .int .i64 0, .int .i64 (d : Int)]) (by simp [results, Tryz.results43, go_sem, c0, c1, c2, c3]) rfl ⟨rfl, bset4 (btrans hW b3) (Nat.le_refl _) _ _ _ _⟩
    · rw [hD] at hd
      have a := takeInt_any (w.alloc (.cells #[.int .i64 0, .string ⟨#[]⟩, .int .i64 0, .int .i64 0] 67)) s hs
      have HR : Hid (oneL s.data.toList = if 18 < runN digitB s.data.toList then .inr 0 else .inl (2, s.data.toList.take (runN digitB s.data.toList), numL (s.data.toList.take (runN digitB s.data.toList)), runN digitB s.data.toList)) := by
        show oneL _ = _
        rw [HO.out]
        unfold oneC
        rw [hL, hD, ← byte_head s h0]
        simp
      clear hL hD hm
      rw [← HR.out] at a
      generalize oneL s.data.toList = R at a
      clear HO HR
      match R, a with
      | .inl (kind, tx, n, len), a =>
        simp only [takeV] at a ⊢
        go_enter Tryz.func43, Tryz.ntmps43
        go_wp2_with fail
        refine hl.mono ?_
        rintro e w1 ⟨rfl, hw1⟩
        subst w1
        go_wp2_with fail
        refine hd.mono ?_
        rintro e w1 ⟨rfl, hw1⟩
        subst w1
        go_wp2_with fail
        refine a.mono ?_
        rintro e w3 ⟨rfl, b3⟩
        have t0 : TokAt w3 w.heap.size 0 ⟨#[]⟩ 0 0 := TokAt.keep (heap_alloc_new w _) b3
        obtain ⟨c0, c1, c2, c3⟩ := t0.cells
        have hf := t0.frozen
        clear t0
        go_wp2_with fail
        exact bodyPost_ret (v := .tuple #[T4 kind ⟨tx.toArray⟩ (n : Int) 0, .int .i64 (len : Int), .int .i64 (-1)]) (by simp [results, Tryz.results43, go_sem, c0, c1, c2, c3]) rfl ⟨rfl, bset4 (btrans hW b3) (Nat.le_refl _) _ _ _ _⟩
      | .inr d, a =>
        simp only [takeV] at a ⊢
        go_enter Tryz.func43, Tryz.ntmps43
        go_wp2_with fail
        refine hl.mono ?_
        rintro e w1 ⟨rfl, hw1⟩
        subst w1
        go_wp2_with fail
        refine hd.mono ?_
        rintro e w1 ⟨rfl, hw1⟩
        subst w1
        go_wp2_with fail
        refine a.mono ?_
        rintro e w3 ⟨rfl, b3⟩
        have t0 : TokAt w3 w.heap.size 0 ⟨#[]⟩ 0 0 := TokAt.keep (heap_alloc_new w _) b3
        obtain ⟨c0, c1, c2, c3⟩ := t0.cells
        have hf := t0.frozen
        clear t0
        go_wp2_with fail
        exact bodyPost_ret (v := .tuple #[T4 0 ⟨#[]⟩ 0 0, .int .i64 0, .int .i64 (d : Int)]) (by simp [results, Tryz.results43, go_sem, c0, c1, c2, c3]) rfl ⟨rfl, bset4 (btrans hW b3) (Nat.le_refl _) _ _ _ _⟩
  · rw [hL] at hl
    have a := takeName_any (w.alloc (.cells #[.int .i64 0, .string ⟨#[]⟩, .int .i64 0, .int .i64 0] 67)) s hs
    have HR : Hid (oneL s.data.toList = if 30 < runN nameB s.data.toList then .inr 0 else .inl (1, s.data.toList.take (runN nameB s.data.toList), 0, runN nameB s.data.toList)) := by
      show oneL _ = _
      rw [HO.out]
      unfold oneC
      rw [hL, ← byte_head s h0]
      simp only [if_true]
      rfl
    clear hL hm
    rw [← HR.out] at a
    generalize oneL s.data.toList = R at a
    clear HO HR
    match R, a with
    | .inl (kind, tx, n, len), a =>
      simp only [takeV] at a ⊢
      go_enter Tryz.func43, Tryz.ntmps43
      go_wp2_with fail
      refine hl.mono ?_
      rintro e w1 ⟨rfl, hw1⟩
      subst w1
      go_wp2_with fail
      refine a.mono ?_
      rintro e w3 ⟨rfl, b3⟩
      have t0 : TokAt w3 w.heap.size 0 ⟨#[]⟩ 0 0 := TokAt.keep (heap_alloc_new w _) b3
      obtain ⟨c0, c1, c2, c3⟩ := t0.cells
      have hf := t0.frozen
      clear t0
      go_wp2_with fail
      exact bodyPost_ret (v := .tuple #[T4 kind ⟨tx.toArray⟩ (n : Int) 0, .int .i64 (len : Int), .int .i64 (-1)]) (by simp [results, Tryz.results43, go_sem, c0, c1, c2, c3]) rfl ⟨rfl, bset4 (btrans hW b3) (Nat.le_refl _) _ _ _ _⟩
    | .inr d, a =>
      simp only [takeV] at a ⊢
      go_enter Tryz.func43, Tryz.ntmps43
      go_wp2_with fail
      refine hl.mono ?_
      rintro e w1 ⟨rfl, hw1⟩
      subst w1
      go_wp2_with fail
      refine a.mono ?_
      rintro e w3 ⟨rfl, b3⟩
      have t0 : TokAt w3 w.heap.size 0 ⟨#[]⟩ 0 0 := TokAt.keep (heap_alloc_new w _) b3
      obtain ⟨c0, c1, c2, c3⟩ := t0.cells
      have hf := t0.frozen
      clear t0
      go_wp2_with fail
      exact bodyPost_ret (v := .tuple #[T4 0 ⟨#[]⟩ 0 0, .int .i64 0, .int .i64 (d : Int)]) (by simp [results, Tryz.results43, go_sem, c0, c1, c2, c3]) rfl ⟨rfl, bset4 (btrans hW b3) (Nat.le_refl _) _ _ _ _⟩

end Go.Proofs.YtailfiofcicloaaGreatDoor

namespace Go.Proofs.YtailfiofcicloaaGreatDoor
open Go.RowKit Go.Sort

theorem lieG_at {α : Type} {m : Nat} {enc : α → List Value} {w w' : World} {ao : Option Addr} {L : List α} (hc : ∀ i (h : i < L.length), ∃ b off, ao = some ⟨b, off, none⟩ ∧ ∀ j u, (enc L[i])[j]? = some u → w.cell? ⟨b, off + i * m + j, none⟩ = some u) (k : Below w.heap.size w w') {i : Nat} (h : i < L.length) :
    ∃ b off, ao = some ⟨b, off, none⟩ ∧ ∀ j u, (enc L[i])[j]? = some u → w'.cell? ⟨b, off + i * m + j, none⟩ = some u := by
  obtain ⟨b, off, h0, h1⟩ := hc i h
  exact ⟨b, off, h0, fun j u hj => cell_keep (h1 j u hj) k⟩
/-- The four cells of a token that lies in a slice. -/
theorem tok_cells {w : World} {b o : Nat} {t : Tk} (h : ∀ j u, (encT t)[j]? = some u → w.cell? ⟨b, o + j, none⟩ = some u) :
    w.cell? ⟨b, o, none⟩ = some (.int .i64 t.1) ∧ w.cell? ⟨b, o + 1, none⟩ = some (.string t.2.1) ∧ w.cell? ⟨b, o + 2, none⟩ = some (.int .i64 t.2.2.1) ∧ w.cell? ⟨b, o + 3, none⟩ = some (.int .i64 t.2.2.2) :=
  ⟨h 0 _ rfl, h 1 _ rfl, h 2 _ rfl, h 3 _ rfl⟩

theorem tok_ne {a b : Tk} (h : ¬ a = b) : ¬ a.1 = b.1 ∨ (a.1 = b.1 ∧ ¬ a.2.1.toList = b.2.1.toList) ∨ (a.1 = b.1 ∧ a.2.1.toList = b.2.1.toList ∧ ¬ a.2.2.1 = b.2.2.1) ∨ (a.1 = b.1 ∧ a.2.1.toList = b.2.1.toList ∧ a.2.2.1 = b.2.2.1 ∧ ¬ a.2.2.2 = b.2.2.2) := by
  by_cases h1 : a.1 = b.1
  · by_cases h2 : a.2.1.toList = b.2.1.toList
    · by_cases h3 : a.2.2.1 = b.2.2.1
      · exact .inr (.inr (.inr ⟨h1, h2, h3, fun h4 => h (Prod.ext h1 (Prod.ext (toList_inj h2) (Prod.ext h3 h4)))⟩))
      · exact .inr (.inr (.inl ⟨h1, h2, h3⟩))
    · exact .inr (.inl ⟨h1, h2⟩)
  · exact .inl h1

end Go.Proofs.YtailfiofcicloaaGreatDoor

namespace Go.Proofs.YtailfiofcicloaaGreatDoor
open Go.RowKit Go.Sort

theorem clone_any (w : World) (s : ByteArray) (hs : s.size ≤ 1000000) : Calls Tryz.prog 44 #[.string s] w fun e w' => e = .returned (.string s) ∧ Below w.heap.size w w' := by
  have a := Tryz.stringslite_Clone s w (by omega)
  go_enter Tryz.func44, Tryz.ntmps44
  go_wp2_with fail
  refine a.mono ?_
  rintro e w1 ⟨rfl, b1⟩
  go_wp2_with fail
  go_ret
  exact ⟨rfl, b1⟩

theorem scanR_blanks : ∀ (l : List UInt8) (o k : Nat), scanR l o k = scanR (l.drop (runN blankB l)) (o + runN blankB l) k
  | [], o, k => rfl
  | c :: r, o, k => by
    by_cases h : blankB c = true
    · rw [scanR_blank h, scanR_blanks r]
      have e : runN blankB (c :: r) = runN blankB r + 1 := by rw [runN, if_pos h]
      rw [e, List.drop_succ_cons, show o + 1 + runN blankB r = o + (runN blankB r + 1) by omega]
    · have e : runN blankB (c :: r) = 0 := by rw [runN, if_neg h]
      rw [e]; rfl
theorem runN_stop (p : UInt8 → Bool) : ∀ l : List UInt8, l.drop (runN p l) = [] ∨ ∃ c r, l.drop (runN p l) = c :: r ∧ p c = false
  | [] => .inl rfl
  | c :: r => by
    by_cases h : p c = true
    · have e : runN p (c :: r) = runN p r + 1 := by rw [runN, if_pos h]
      rw [e, List.drop_succ_cons]
      exact runN_stop p r
    · have e : runN p (c :: r) = 0 := by rw [runN, if_neg h]
      rw [e]
      exact .inr ⟨c, r, rfl, by simpa using h⟩
theorem two_dash {l : List UInt8} (h : Lib.hasPrefix l [45, 45] = true) : ∃ c d r, l = c :: d :: r ∧ c.toNat = 45 ∧ d.toNat = 45 := by
  have h' : [45, 45] <+: l := List.isPrefixOf_iff_prefix.1 h
  obtain ⟨r, rfl⟩ := h'
  exact ⟨45, 45, r, rfl, rfl, rfl⟩
theorem no_dash {c : UInt8} {r : List UInt8} (h : Lib.hasPrefix (c :: r) [45, 45] = false) : ¬ (c.toNat = 45 ∧ r.head?.map UInt8.toNat = some 45) := by
  rintro ⟨h1, h2⟩
  have e1 : c = 45 := UInt8.toNat_inj.1 h1
  cases r with
  | nil => simp at h2
  | cons d q =>
    have e2 : d = 45 := UInt8.toNat_inj.1 (by simpa using h2)
    subst e1 e2
    have : Lib.hasPrefix (45 :: 45 :: q) [45, 45] = true := by
      show List.isPrefixOf [45, 45] (45 :: 45 :: q) = true
      rw [List.isPrefixOf_iff_prefix]
      exact ⟨q, rfl⟩
    rw [this] at h
    cases h
theorem scanR_dash {l : List UInt8} (h : Lib.hasPrefix l [45, 45] = true) (o k : Nat) : scanR l o k = scanR (l.drop (runN noEndB l)) (o + runN noEndB l) k ∧ 0 < runN noEndB l := by
  obtain ⟨c, d, r, rfl, h1, h2⟩ := two_dash h
  exact ⟨scanR_line h1 h2, runN_pos (by simp [noEndB, h1])⟩
/-- The token at the front, the end too. -/
def oneE : List UInt8 → (Int × List UInt8 × Nat × Nat) ⊕ Nat
  | [] => .inl (0, [], 0, 0)
  | c :: r => oneL (c :: r)
theorem scanR_tok {l : List UInt8} (hb : l = [] ∨ ∃ c r, l = c :: r ∧ blankB c = false) (hd : Lib.hasPrefix l [45, 45] = false) (o k : Nat) :
    scanR l o k = match oneE l with
      | .inr n => ([], o + n, 10)
      | .inl (kind, t, n, len) => if 6000 ≤ k then ([], o, 8) else if l = [] then ([(kind, ⟨t.toArray⟩, (n : Int), (o : Int))], 0, 0) else aheadT [(kind, ⟨t.toArray⟩, (n : Int), (o : Int))] (scanR (l.drop len) (o + len) (k + 1)) := by
  rcases hb with rfl | ⟨c, r, rfl, hb⟩
  · rw [scanR_nil]; rfl
  · rw [scanR_one hb (no_dash hd)]
    show (match oneL (c :: r) with | .inr n => _ | .inl (kind, t, n, len) => _) = match oneL (c :: r) with | .inr n => _ | .inl (kind, t, n, len) => _
    generalize oneL (c :: r) = z
    rcases z with ⟨kind, t, n, len⟩ | n
    · simp
    · rfl
theorem oneL_kind {l : List UInt8} {kind : Int} {t : List UInt8} {n len : Nat} (h : oneL l = .inl (kind, t, n, len)) : kind ≠ 0 := by
  cases l with
  | nil => cases h
  | cons c r =>
    replace h : oneC c r = .inl (kind, t, n, len) := h
    unfold oneC at h
    repeat' split at h
    all_goals first | (cases h; done) | (simp only [Sum.inl.injEq, Prod.mk.injEq] at h; obtain ⟨rfl, _⟩ := h; decide)
/-- What is known of a token at the front, or of the end. -/
theorem oneE_facts {l : List UInt8} {kind : Int} {t : List UInt8} {n len : Nat} (h : oneE l = .inl (kind, t, n, len)) : (l = [] ∧ kind = 0) ∨ (¬ l = [] ∧ kind ≠ 0 ∧ 0 < len ∧ len ≤ l.length) := by
  cases l with
  | nil =>
    simp only [oneE, Sum.inl.injEq, Prod.mk.injEq] at h
    exact .inl ⟨rfl, h.1.symm⟩
  | cons c r => exact .inr ⟨by simp, oneL_kind (l := c :: r) h, oneL_len (l := c :: r) h⟩
theorem oneL_text {l : List UInt8} {kind : Int} {t : List UInt8} {n len : Nat} (h : oneL l = .inl (kind, t, n, len)) : t.length ≤ 1000 := by
  cases l with
  | nil => cases h
  | cons c r =>
    replace h : oneC c r = .inl (kind, t, n, len) := h
    unfold oneC at h
    split at h
    · split at h
      · cases h
      · simp only [Sum.inl.injEq, Prod.mk.injEq] at h
        obtain ⟨_, rfl, _⟩ := h
        rw [List.length_take]; omega
    · split at h
      · split at h
        · cases h
        · simp only [Sum.inl.injEq, Prod.mk.injEq] at h
          obtain ⟨_, rfl, _⟩ := h
          rw [List.length_take]; omega
      · split at h
        · split at h
          · rename_i b k e
            simp only [Sum.inl.injEq, Prod.mk.injEq] at h
            obtain ⟨_, rfl, _⟩ := h
            unfold textP at e
            split at e
            · cases e
            · split at e
              · cases e
              · split at e
                · cases e
                · simp only [Sum.inl.injEq, Prod.mk.injEq] at e
                  obtain ⟨rfl, _⟩ := e
                  omega
          · cases h
        · split at h
          · rename_i m e
            simp only [Sum.inl.injEq, Prod.mk.injEq] at h
            obtain ⟨_, rfl, _⟩ := h
            exact Nat.le_trans ((by decide : ∀ m ∈ marksL, m.length ≤ 2) m (List.mem_of_find?_eq_some e)) (by decide)
          · cases h
theorem oneE_text {l : List UInt8} {kind : Int} {t : List UInt8} {n len : Nat} (h : oneE l = .inl (kind, t, n, len)) : t.length ≤ 1000 := by
  cases l with
  | nil =>
    simp only [oneE, Sum.inl.injEq, Prod.mk.injEq] at h
    obtain ⟨_, rfl, _⟩ := h
    simp
  | cons c r => exact oneL_text (l := c :: r) h
theorem oneL_bad {l : List UInt8} {d : Nat} (h : oneL l = .inr d) : d ≤ l.length := by
  cases l with
  | nil => simp only [oneL, Sum.inr.injEq] at h; omega
  | cons c r =>
    replace h : oneC c r = .inr d := h
    unfold oneC at h
    split at h
    · split at h
      · simp only [Sum.inr.injEq] at h; omega
      · cases h
    · split at h
      · split at h
        · simp only [Sum.inr.injEq] at h; omega
        · cases h
      · split at h
        · split at h
          · cases h
          · rename_i k e
            simp only [Sum.inr.injEq] at h
            subst h
            unfold textP at e
            split at e
            · simp only [Sum.inr.injEq] at e; omega
            · split at e
              · simp only [Sum.inr.injEq] at e; omega
              · split at e
                · rename_i hr
                  simp only [Sum.inr.injEq] at e
                  have := qrun_le false (c :: r)
                  omega
                · cases e
        · split at h
          · cases h
          · simp only [Sum.inr.injEq] at h; omega
theorem oneE_bad {l : List UInt8} {d : Nat} (h : oneE l = .inr d) : d ≤ l.length := by
  cases l with
  | nil => cases h
  | cons c r => exact oneL_bad (l := c :: r) h
theorem TokAt.set13 {w : World} {b : Nat} {k n a : Int} {t : ByteArray} (h : TokAt w b k t n a) (t' : ByteArray) (a' : Int) : TokAt ((w.setCell ⟨b, 1, none⟩ (.string t')).setCell ⟨b, 3, none⟩ (.int .i64 a')) b k t' n a' :=
  heap_setCell_same _ b 3 _ _ _ (heap_setCell_same w b 1 _ _ _ h)
theorem TokAt.after {w w' : World} {b : Nat} {k n a : Int} {t : ByteArray} {v : Value} (h : TokAt w b k t n a) (hk : ∀ i, i < w.heap.size → v.ownBlock ≠ some i → w'.heap[i]? = w.heap[i]?) (hn : v.ownBlock ≠ some b) : TokAt w' b k t n a := (hk b h.lt hn).trans h
theorem extract_rest (s : ByteArray) (k : Nat) : (s.extract k s.size).data.toList = s.data.toList.drop k := by
  rw [extract_mid]
  have h : (s.data.toList.drop k).length ≤ s.size - k := by simp
  rw [List.take_of_length_le h]
theorem take_rest (w : World) (s : ByteArray) (k : Nat) (hk : k ≤ s.size) (hs : s.size ≤ 1000000) (hm : HasMax w ∨ ∀ c ∈ s.data.toList, c.toNat ≠ 39) :
    Calls Tryz.prog 43 #[.string (s.extract k s.size)] w fun e w' => e = .returned (takeV (oneE (s.data.toList.drop k))) ∧ Below w.heap.size w w' := by
  have he := extract_rest s k
  by_cases h : k = s.size
  · subst h
    have h1 : s.data.toList.drop s.size = [] := List.drop_eq_nil_of_le (by simp)
    rw [h1] at he ⊢
    have h2 : s.extract s.size s.size = ⟨#[]⟩ := toList_inj (by rw [ByteArray.toList_eq, he, ByteArray.toList_eq])
    rw [h2]
    exact take_nil w
  · have h0 : 0 < (s.extract k s.size).size := by simp; omega
    have hx : (s.extract k s.size).size ≤ 1000000 := by simp; omega
    have a := take_any w (s.extract k s.size) h0 (hm.imp id fun hn => hn _ (by
      have : (s.extract k s.size)[0] ∈ (s.extract k s.size).data.toList := by
        rw [byte_head _ h0]; exact List.mem_cons_self ..
      rw [he] at this
      exact List.mem_of_mem_drop this)) hx
    have hc := byte_head _ h0
    rw [he] at a hc
    rw [hc] at a ⊢
    exact a

/-- A scope whose label stands somewhere in it, and is only gone back to. -/
theorem wp_scope_mid {P : Program} {Q : Exit → Act → World → Prop} {a : Act} {w : World} {c body : Code} (l : Nat) (J : Act → World → Prop) (μ : Act → World → Nat) (hf : findLabel c l = some (Code.skip.seq body))
    (first : (∀ a w, J a w → body.wp P (Exit.jump l J Q) a w) → c.wp P (Exit.jump l J Q) a w)
    (pass : ∀ a w, J a w → body.wp P (Exit.jump l (fun a' w' => J a' w' ∧ μ a' w' < μ a w) Q) a w) : (Code.scope c).wp P Q a w :=
  wp_scope_jumps l J μ hf (first fun a w hJ => wp_mono (pass a w hJ) fun e a w h => by
    cases e <;> first | exact h | exact ⟨h.1, h.2.1⟩) fun a w hJ => wp_seq (wp_skip (pass a w hJ))

section
variable {α : Type} {m : Nat} {enc : α → List Value}
/-- One append of a struct that lies in a new block; what else lies there stays. -/
theorem wpList_pushG2 (he : ∀ x, (enc x).length = m) (hm : 0 < m) (h1c : ∀ x, ∀ u ∈ enc x, u.oneCell' = true) {ops : Array Oper} {rest : List Oper} {o : Oper} {a : Act} {Q : Exit → Act → World → Prop} {w : World} {base H : Nat} {t e : TypeId} {z : Value} {bytes : Nat} {v : Value} {L : List α} {C : Array Value} (y : α)
    (hinfo : (Tryz.prog.info? e).map (fun i => (i.zero, i.size, i.bytes)) = some (some z, m, bytes)) (ht : Tryz.prog.underlying t = some (.slice e)) (hzc : z.cells.size = m) (hby : bytes ≤ 4096)
    (s x : Operand) (hgd : o.guard = none) (ho : o.op = .call { callee := .builtin .append, args := #[s, x], argTypes := #[t, t] })
    (hs : a.eval s = v) (hx : a.eval x = .slice (some ⟨H, 0, none⟩) 1 1) (hH : w.heap.size = H) (hC : C.toList = enc y) (hown : OwnG m enc w base e v L) (hb : base ≤ w.heap.size) (hlen : L.length + 1 ≤ 10000000)
    (h : ∀ v' w', OwnG m enc w' base e v' (L ++ [y]) → Below base w w' → (∀ i, i < w.heap.size → v.ownBlock ≠ some i → w'.heap[i]? = w.heap[i]?) → wpList Tryz.prog ops Q rest (a.put o.dst v') w') :
    wpList Tryz.prog ops Q (o :: rest) a (w.alloc (.cells C e)) := by
  refine wpList_catG he hm h1c (L := L) (M := [y]) hinfo ht hzc hby s x hgd ho hs hx (hown.alloc _) (OwnG.lies he (OwnG.lit he w [y] (by rw [hC]; simp [gcells]) (base := base) hb hH (by simp))) (by simp; omega) hlen fun v' w' h1 h2 h3 => h v' w' h1 (((Below.refl _ _).alloc hb _).trans h2) fun i hi hne => ?_
  rw [h3.block i (by simp; omega) (fun e => hne e.symm)]
  exact Below.heap_alloc _ _ _ (by simpa using hi)
theorem OwnG.notOwn {w : World} {base : Nat} {e : TypeId} {v : Value} {L : List α} (h : OwnG m enc w base e v L) {q : Nat} (hq : w.heap.size ≤ q) : v.ownBlock ≠ some q := fun hv => by
  have := (World.ownsRow.lt h q hv).2
  omega
end

end Go.Proofs.YtailfiofcicloaaGreatDoor
