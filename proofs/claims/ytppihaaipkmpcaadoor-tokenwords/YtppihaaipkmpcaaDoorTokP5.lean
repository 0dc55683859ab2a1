/- Contracts of the program's takeMark and takeText. -/
import Derived.Test.YtppihaaipkmpcaaDoorTokP4
import Derived.Test.YtppihaaipkmpcaaDoorShelf
namespace Go.Proofs.YtppihaaipkmpcaaDoor
open Go.RowKit Go.Sort

def secondN : List UInt8 → Nat
  | [] => 0
  | x :: _ => x.toNat
theorem byte_ne {c : UInt8} {k : Nat} (h : ¬ c.toNat = k) (hk : k < 256) : (UInt8.ofNat k == c) = false := by
  rw [beq_eq_false_iff_ne]
  intro e
  apply h
  rw [← e]
  simp; omega
theorem byte_is {c : UInt8} {k : Nat} (h : c.toNat = k) : c = UInt8.ofNat k := by
  subst h; simp
theorem find_mark (c : UInt8) (r : List UInt8) : marksL.find? (fun m => m.isPrefixOf (c :: r)) = if markC c.toNat (secondN r) = 0 then none else some ((c :: r).take (markC c.toNat (secondN r))) := by
  rcases mark_cases c.toNat with h | h | h | h | h | h | h | h | h | h | h | h | h | h | h | h | h | h
  · have hc := byte_is h; subst hc
    cases r with
    | nil => rfl
    | cons x q =>
      by_cases hx : x.toNat = 124
      · have := byte_is hx; subst this; rfl
      · have e : ((124 : UInt8) == x) = false := byte_ne hx (by decide)
        have e2 : markC (UInt8.ofNat 124).toNat (secondN (x :: q)) = 0 := by show markC 124 x.toNat = 0; simp [markC, hx]
        rw [e2]
        simp [marksL, List.find?, List.isPrefixOf, e]
  · have hc := byte_is h; subst hc
    cases r with
    | nil => rfl
    | cons x q =>
      by_cases hx : x.toNat = 62
      · have := byte_is hx; subst this; rfl
      · by_cases hy : x.toNat = 61
        · have := byte_is hy; subst this; rfl
        · have e : ((62 : UInt8) == x) = false := byte_ne hx (by decide)
          have e' : ((61 : UInt8) == x) = false := byte_ne hy (by decide)
          have e2 : markC (UInt8.ofNat 60).toNat (secondN (x :: q)) = 1 := by show markC 60 x.toNat = 1; simp [markC, hx, hy]
          rw [e2]
          simp [marksL, List.find?, List.isPrefixOf, e, e']
  · have hc := byte_is h; subst hc
    cases r with
    | nil => rfl
    | cons x q =>
      by_cases hy : x.toNat = 61
      · have := byte_is hy; subst this; rfl
      · have e' : ((61 : UInt8) == x) = false := byte_ne hy (by decide)
        have e2 : markC (UInt8.ofNat 62).toNat (secondN (x :: q)) = 1 := by show markC 62 x.toNat = 1; simp [markC, hy]
        rw [e2]
        simp [marksL, List.find?, List.isPrefixOf, e']
  iterate 14
    · have hc := byte_is h; subst hc
      rfl
  · have e2 : markC c.toNat (secondN r) = 0 := by unfold markC; simp only [h, false_or, if_false]
    rw [e2, if_pos rfl]
    have hall : ∀ m ∈ marksL, ∃ k q, m = UInt8.ofNat k :: q ∧ k < 256 ∧ (k = 124 ∨ k = 60 ∨ k = 62 ∨ k = 40 ∨ k = 41 ∨ k = 44 ∨ k = 59 ∨ k = 46 ∨ k = 42 ∨ k = 43 ∨ k = 45 ∨ k = 47 ∨ k = 37 ∨ k = 61 ∨ k = 123 ∨ k = 125 ∨ k = 58) := by
      intro m hm
      simp only [marksL, List.mem_cons, List.not_mem_nil, or_false] at hm
      rcases hm with rfl | rfl | rfl | rfl | rfl | rfl | rfl | rfl | rfl | rfl | rfl | rfl | rfl | rfl | rfl | rfl | rfl | rfl | rfl | rfl
      · exact ⟨124, _, rfl, by decide, by decide⟩
      · exact ⟨60, _, rfl, by decide, by decide⟩
      · exact ⟨60, _, rfl, by decide, by decide⟩
      · exact ⟨62, _, rfl, by decide, by decide⟩
      · exact ⟨40, _, rfl, by decide, by decide⟩
      · exact ⟨41, _, rfl, by decide, by decide⟩
      · exact ⟨44, _, rfl, by decide, by decide⟩
      · exact ⟨59, _, rfl, by decide, by decide⟩
      · exact ⟨46, _, rfl, by decide, by decide⟩
      · exact ⟨42, _, rfl, by decide, by decide⟩
      · exact ⟨43, _, rfl, by decide, by decide⟩
      · exact ⟨45, _, rfl, by decide, by decide⟩
      · exact ⟨47, _, rfl, by decide, by decide⟩
      · exact ⟨37, _, rfl, by decide, by decide⟩
      · exact ⟨61, _, rfl, by decide, by decide⟩
      · exact ⟨60, _, rfl, by decide, by decide⟩
      · exact ⟨62, _, rfl, by decide, by decide⟩
      · exact ⟨123, _, rfl, by decide, by decide⟩
      · exact ⟨125, _, rfl, by decide, by decide⟩
      · exact ⟨58, _, rfl, by decide, by decide⟩
    rw [List.find?_eq_none]
    intro m hm hp
    obtain ⟨k, q, rfl, hk, hor⟩ := hall m hm
    rw [List.isPrefixOf] at hp
    have hne : ¬ c.toNat = k := by omega
    rw [byte_ne hne hk] at hp
    simp at hp

theorem byte_head (s : ByteArray) (h : 0 < s.size) : s.data.toList = s[0] :: s.data.toList.drop 1 := by
  have := byte_at s h
  simpa using this
theorem second_at (s : ByteArray) : secondN (s.data.toList.drop 1) = if h : 1 < s.size then s[1].toNat else 0 := by
  by_cases h : 1 < s.size
  · rw [dif_pos h, byte_at s h]; rfl
  · rw [dif_neg h, List.drop_eq_nil_of_le (by simp; omega)]; rfl
/-- The mark at the front. -/
def markL (l : List UInt8) : (Int × List UInt8 × Nat × Nat) ⊕ Nat := match marksL.find? (fun m => m.isPrefixOf l) with
  | some m => .inl (4, m, 0, m.length)
  | none => .inr 0
set_option maxHeartbeats 1000000 in
theorem takeMark_any (w : World) (s : ByteArray) (h0 : 0 < s.size) (hs : s.size ≤ 1000000) :
    Calls Tryd.prog 32 #[.string s] w fun e w' => e = .returned (takeV (markL s.data.toList)) ∧ Below w.heap.size w w' := by
  have a1 := markSize_any (w.alloc (.cells #[.int .i64 0, .string ⟨#[]⟩, .int .i64 0, .int .i64 0] 34)) s h0 hs
  have HF := find_mark s[0] (s.data.toList.drop 1)
  rw [← byte_head s h0, second_at] at HF
  have hle : markC s[0].toNat (if h : 1 < s.size then s[1].toNat else 0) ≤ s.size := by
    refine Classical.byContradiction fun hn => ?_
    have h2 : markC s[0].toNat (if h : 1 < s.size then s[1].toNat else 0) ≤ 2 := by unfold markC; (repeat' split) <;> omega
    have h1 : s.size = 1 := by omega
    rw [dif_neg (by omega)] at hn
    have : markC s[0].toNat 0 ≤ 1 := by unfold markC; (repeat' split) <;> omega
    omega
  generalize markC s[0].toNat (if h : 1 < s.size then s[1].toNat else 0) = n at a1 HF hle
  have i0 : (0 : Int) ≤ (n : Int) := by omega
  have i1 : (n : Int) ≤ (s.size : Int) := by omega
  have HE : Hid (s.extract 0 n = ⟨(s.data.toList.take n).toArray⟩) := extract_front s n
  by_cases h : n = 0
  · have q : ((n : Int) == 0) = true := by rw [h]; rfl
    have HM : Hid (markL s.data.toList = .inr 0) := by show markL _ = _; unfold markL; rw [HF, if_pos h]
    clear HF h
    go_enter Tryd.func32, Tryd.ntmps32
    go_wp2_with fail
    refine a1.mono ?_
    rintro e w1 ⟨rfl, hw1⟩
    subst w1
    go_wp2_with fail
    exact bodyPost_ret (v := takeV (.inr 0)) (by simp [results, Tryd.results32, go_sem, takeV]) rfl ⟨by rw [HM.out], ((Below.refl _ _).alloc (Nat.le_refl _) _)⟩
  · have q : ((n : Int) == 0) = false := by rw [beq_eq_false_iff_ne]; omega
    have HM : Hid (markL s.data.toList = .inl (4, s.data.toList.take n, 0, n)) := by
      show markL _ = _
      unfold markL
      rw [HF, if_neg h]
      simp only [List.length_take, Array.length_toList]
      rw [Nat.min_eq_left (by simpa using hle)]
    clear HF h
    go_enter Tryd.func32, Tryd.ntmps32
    go_wp2_with fail
    refine a1.mono ?_
    rintro e w1 ⟨rfl, hw1⟩
    subst w1
    go_wp2_with fail
    exact bodyPost_ret (v := takeV (.inl (4, s.data.toList.take n, 0, n))) (by simp [results, Tryd.results32, go_sem, takeV, HE.out]) rfl ⟨by rw [HM.out], ((Below.refl _ _).alloc (Nat.le_refl _) _)⟩

/-- The text at the front. -/
def quoteL (l : List UInt8) : (Int × List UInt8 × Nat × Nat) ⊕ Nat := match textP l with
  | .inl (b, n) => .inl (3, b, 0, n)
  | .inr k => .inr k
/-- The library's count of bytes that it goes over at a time. -/
def HasMax (w : World) : Prop := ∃ m : Int, w.cell? ⟨0, 0, none⟩ = some (.int .i64 m)
theorem HasMax.keep {w w' : World} (h : HasMax w) (k : Below w.heap.size w w') : HasMax w' := by
  obtain ⟨m, hm⟩ := h
  exact ⟨m, cell_keep hm k⟩
theorem bset4 {a b : World} {q : Nat} (h : Below a.heap.size a b) (hq : a.heap.size ≤ q) (x0 x1 x2 x3 : Value) : Below a.heap.size a ((((b.setCell ⟨q, 0, none⟩ x0).setCell ⟨q, 1, none⟩ x1).setCell ⟨q, 2, none⟩ x2).setCell ⟨q, 3, none⟩ x3) :=
  (((h.setCell hq x0).setCell hq x1).setCell hq x2).setCell hq x3

set_option maxRecDepth 100000 in
set_option maxHeartbeats 4000000 in
theorem takeText_any (w : World) (hm : HasMax w) (s : ByteArray) (h0 : 0 < s.size) (h39 : s[0].toNat = 39) (hs : s.size ≤ 1000000) :
    Calls Tryd.prog 31 #[.string s] w fun e w' => e = .returned (takeV (quoteL s.data.toList)) ∧ Below w.heap.size w w' := by
  have a1 := spanQ_any (w.alloc (.cells #[.int .i64 0, .string ⟨#[]⟩, .int .i64 0, .int .i64 0] 34)) s hs
  rw [show (w.alloc (.cells #[.int .i64 0, .string ⟨#[]⟩, .int .i64 0, .int .i64 0] 34)).heap.size = w.heap.size + 1 from by simp] at a1
  have hle : (qrun false s.data.toList).1 ≤ s.size := by have := qrun_le false s.data.toList; simpa using this
  have h2 : (qrun false s.data.toList).2 = false → 2 ≤ (qrun false s.data.toList).1 := by rw [byte_head s h0]; exact qrun_two h39
  have HQ : Hid (textP s.data.toList = if (qrun false s.data.toList).2 = true then .inr 0
    else if 1000 < (saidP s.data.toList).length then .inr 0
    else if runN mayB (s.data.toList.take (qrun false s.data.toList).1) < (qrun false s.data.toList).1 then .inr (runN mayB (s.data.toList.take (qrun false s.data.toList).1))
    else .inl (saidP s.data.toList, (qrun false s.data.toList).1)) := rfl
  have HS : Hid (saidP s.data.toList = Lib.replaceAll ((s.data.toList.take ((qrun false s.data.toList).1 - 1)).drop 1) [39, 39] [39]) := rfl
  generalize qrun false s.data.toList = nb at a1 hle h2 HQ HS
  obtain ⟨n, o⟩ := nb
  dsimp only at a1 hle h2 HQ HS
  cases o
  · replace h2 := h2 rfl
    simp only [Bool.false_eq_true, if_false] at HQ
    have HX : Hid ((s.extract 1 (n - 1)).data.toList = (s.data.toList.take (n - 1)).drop 1) := by
      show (s.extract 1 (n - 1)).data.toList = _
      rw [extract_mid]
      simp [List.drop_take]
    have hxs : (s.extract 1 (n - 1)).size ≤ 1000000 := by simp; omega
    have hW : Below w.heap.size w ((w.alloc (.cells #[.int .i64 0, .string ⟨#[]⟩, .int .i64 0, .int .i64 0] 34)).alloc (.cells #[.bool false] 4)) := ((Below.refl _ _).alloc (Nat.le_refl _) _).alloc (by simp) _
    obtain ⟨m, hm'⟩ := hm.keep hW
    have a2 := Tryd.strings_ReplaceAll (s.extract 1 (n - 1)) ⟨#[39, 39]⟩ ⟨#[39]⟩ m _ (by omega) hm' (by decide) (by
      have := Lib.countB_le ⟨#[39, 39]⟩ (by decide) _ (s.extract 1 (n - 1)) (Nat.le_refl _)
      show _ + _ * 1 ≤ _
      omega)
    rw [HX.out] at a2
    have e3 : Lib.replaceAll ((s.data.toList.take (n - 1)).drop 1) (⟨#[39, 39]⟩ : ByteArray).data.toList (⟨#[39]⟩ : ByteArray).data.toList = saidP s.data.toList := HS.out.symm
    rw [e3] at a2
    clear e3 HS HX hm'
    generalize saidP s.data.toList = sd at a2 HQ
    have j0 : (1 : Int) ≤ (n : Int) - 1 := by omega
    have j1 : (n : Int) - 1 ≤ (s.size : Int) := by omega
    have j2 : (n : Int) ≤ (s.size : Int) := by omega
    have j3 : (0 : Int) ≤ (n : Int) := by omega
    have hsz : (⟨sd.toArray⟩ : ByteArray).size = sd.length := by simp [ByteArray.size]
    have a3 := fun w' => span_may w' (s.extract 0 n) (by simp; omega)
    rw [show (s.extract 0 n).data.toList = s.data.toList.take n from by rw [extract_front]] at a3
    have hrl : runN mayB (s.data.toList.take n) ≤ n := by have := runN_le mayB (s.data.toList.take n); simp at this; omega
    generalize runN mayB (s.data.toList.take n) = r at a3 HQ hrl
    by_cases hl : 1000 < sd.length
    · have q : decide ((1000 : Int) < ((⟨sd.toArray⟩ : ByteArray).size : Int)) = true := by rw [hsz]; simp; omega
      have HR : Hid (quoteL s.data.toList = .inr 0) := by show quoteL _ = _; unfold quoteL; rw [HQ.out, if_pos hl]
      clear HQ h2 hl hsz
      generalize (⟨sd.toArray⟩ : ByteArray) = sb at *
      go_enter Tryd.func31, Tryd.ntmps31
      go_wp2_with fail
      refine a1.mono ?_
      rintro e w1 ⟨rfl, hw1⟩
      subst w1
      go_wp2_with fail
      refine a2.mono ?_
      rintro e w3 ⟨rfl, b3⟩
      have t0 : TokAt w3 w.heap.size 0 ⟨#[]⟩ 0 0 := TokAt.keep (TokAt.alloc (heap_alloc_new w _) _) b3
      obtain ⟨c0, c1, c2, c3⟩ := t0.cells
      have hf := t0.frozen
      clear t0
      go_wp2_with fail
      exact bodyPost_ret (v := takeV (.inr 0)) (by simp [results, Tryd.results31, go_sem, takeV, c0, c1, c2, c3]) rfl ⟨by rw [HR.out], bset4 (btrans hW b3) (Nat.le_refl _) _ _ _ _⟩
    · have q : decide ((1000 : Int) < ((⟨sd.toArray⟩ : ByteArray).size : Int)) = false := by rw [hsz]; simp; omega
      by_cases hr : r < n
      · have q2 : decide ((r : Int) < (n : Int)) = true := by simp; omega
        have HR : Hid (quoteL s.data.toList = .inr r) := by show quoteL _ = _; unfold quoteL; rw [HQ.out, if_neg hl, if_pos hr]
        clear HQ h2 hl hsz
        generalize (⟨sd.toArray⟩ : ByteArray) = sb at *
        go_enter Tryd.func31, Tryd.ntmps31
        go_wp2_with fail
        refine a1.mono ?_
        rintro e w1 ⟨rfl, hw1⟩
        subst w1
        go_wp2_with fail
        refine a2.mono ?_
        rintro e w3 ⟨rfl, b3⟩
        have t0 : TokAt w3 w.heap.size 0 ⟨#[]⟩ 0 0 := TokAt.keep (TokAt.alloc (heap_alloc_new w _) _) b3
        obtain ⟨c0, c1, c2, c3⟩ := t0.cells
        have hf := t0.frozen
        clear t0
        go_wp2_with fail
        refine (a3 w3).mono ?_
        rintro e w1 ⟨rfl, hw1⟩
        subst w1
        go_wp2_with fail
        exact bodyPost_ret (v := takeV (.inr r)) (by simp [results, Tryd.results31, go_sem, takeV, c0, c1, c2, c3]) rfl ⟨by rw [HR.out], bset4 (btrans hW b3) (Nat.le_refl _) _ _ _ _⟩
      · have q2 : decide ((r : Int) < (n : Int)) = false := by simp; omega
        have HR : Hid (takeV (quoteL s.data.toList) = .tuple #[T4 3 ⟨sd.toArray⟩ 0 0, .int .i64 (n : Int), .int .i64 (-1)]) := by show takeV (quoteL _) = _; unfold quoteL; rw [HQ.out, if_neg hl, if_neg hr]; rfl
        clear HQ h2 hl hsz
        generalize (⟨sd.toArray⟩ : ByteArray) = sb at *
        go_enter Tryd.func31, Tryd.ntmps31
        go_wp2_with fail
        refine a1.mono ?_
        rintro e w1 ⟨rfl, hw1⟩
        subst w1
        go_wp2_with fail
        refine a2.mono ?_
        rintro e w3 ⟨rfl, b3⟩
        have t0 : TokAt w3 w.heap.size 0 ⟨#[]⟩ 0 0 := TokAt.keep (TokAt.alloc (heap_alloc_new w _) _) b3
        obtain ⟨c0, c1, c2, c3⟩ := t0.cells
        have hf := t0.frozen
        clear t0
        go_wp2_with fail
        refine (a3 w3).mono ?_
        rintro e w1 ⟨rfl, hw1⟩
        subst w1
        go_wp2_with fail
        exact bodyPost_ret (v := .tuple #[T4 3 sb 0 0, .int .i64 (n : Int), .int .i64 (-1)]) (by simp [results, Tryd.results31, go_sem, c0, c1, c2, c3]) rfl ⟨by rw [HR.out], bset4 (btrans hW b3) (Nat.le_refl _) _ _ _ _⟩
  · have HR : Hid (quoteL s.data.toList = .inr 0) := by show quoteL _ = _; unfold quoteL; rw [HQ.out]; rfl
    clear HQ HS h2
    go_enter Tryd.func31, Tryd.ntmps31
    go_wp2_with fail
    refine a1.mono ?_
    rintro e w1 ⟨rfl, hw1⟩
    subst w1
    go_wp2_with fail
    exact bodyPost_ret (v := takeV (.inr 0)) (by simp [results, Tryd.results31, go_sem, takeV]) rfl ⟨by rw [HR.out], ((Below.refl _ _).alloc (Nat.le_refl _) _).alloc (by simp) _⟩

end Go.Proofs.YtppihaaipkmpcaaDoor
