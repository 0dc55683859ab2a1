/- Contracts of the program's takeName, takeInt, takeMark. -/
import Derived.Test.YtppihaaipkmpcaaDoorTokP2
import Derived.Test.YtppihaaipkmpcaaDoorTokMem
namespace Go.Proofs.YtppihaaipkmpcaaDoor
open Go.RowKit Go.Sort

theorem entered {f : FuncId} {fn : Func} (hf : Tryd.prog.funcs[f]? = some fn) (hb : fn.body.isSome = true) (hname : (fn.name == "runtime.NumGoroutine") = false) (a : Array Value) (w : World) :
    (callFunc f a).run Tryd.prog w = .ok (.enter f a) w := by
  have h1 : fn.name ≠ "runtime.NumGoroutine" := by simpa using hname
  have h2 : fn.body ≠ none := by intro h; rw [h] at hb; cases hb
  simp [callFunc, hf, h1, h2]
theorem span_name (w : World) (s : ByteArray) (hs : s.size ≤ 1000000) : Calls Tryd.prog 16 #[.string s, .func (.func 35) #[] #[]] w fun e w' => e = .returned (.int .i64 (runN nameB s.data.toList : Int)) ∧ w' = w :=
  span_any 35 nameB (entered Tryd.func35 (by kernel_rfl) (by kernel_rfl)) name_any w s hs
theorem span_digit (w : World) (s : ByteArray) (hs : s.size ≤ 1000000) : Calls Tryd.prog 16 #[.string s, .func (.func 29) #[] #[]] w fun e w' => e = .returned (.int .i64 (runN digitB s.data.toList : Int)) ∧ w' = w :=
  span_any 29 digitB (entered Tryd.func29 (by kernel_rfl) (by kernel_rfl)) digit_any w s hs
theorem span_may (w : World) (s : ByteArray) (hs : s.size ≤ 1000000) : Calls Tryd.prog 16 #[.string s, .func (.func 38) #[] #[]] w fun e w' => e = .returned (.int .i64 (runN mayB s.data.toList : Int)) ∧ w' = w :=
  span_any 38 mayB (entered Tryd.func38 (by kernel_rfl) (by kernel_rfl)) may_any w s hs
theorem span_blank (w : World) (s : ByteArray) (hs : s.size ≤ 1000000) : Calls Tryd.prog 16 #[.string s, .func (.func 17) #[] #[]] w fun e w' => e = .returned (.int .i64 (runN blankB s.data.toList : Int)) ∧ w' = w :=
  span_any 17 blankB (entered Tryd.func17 (by kernel_rfl) (by kernel_rfl)) blank_any w s hs
theorem span_line (w : World) (s : ByteArray) (hs : s.size ≤ 1000000) : Calls Tryd.prog 16 #[.string s, .func (.func 19) #[] #[]] w fun e w' => e = .returned (.int .i64 (runN noEndB s.data.toList : Int)) ∧ w' = w :=
  span_any 19 noEndB (entered Tryd.func19 (by kernel_rfl) (by kernel_rfl)) noEnd_any w s hs

/-- What is taken, as the program tells it. -/
def takeV : (Int × List UInt8 × Nat × Nat) ⊕ Nat → Value
  | .inl (kind, t, n, len) => .tuple #[T4 kind ⟨t.toArray⟩ (n : Int) 0, .int .i64 (len : Int), .int .i64 (-1)]
  | .inr d => .tuple #[T4 0 ⟨#[]⟩ 0 0, .int .i64 0, .int .i64 (d : Int)]
theorem extract_front (s : ByteArray) (n : Nat) : s.extract 0 n = ⟨(s.data.toList.take n).toArray⟩ := by
  rw [extract_mid]; simp
theorem bset {a b : World} {q i : Nat} {v : Value} (h : Below a.heap.size a b) (hq : a.heap.size ≤ q) : Below a.heap.size a (b.setCell ⟨q, i, none⟩ v) := h.setCell hq v

set_option maxHeartbeats 1000000 in
theorem takeName_any (w : World) (s : ByteArray) (hs : s.size ≤ 1000000) :
    Calls Tryd.prog 28 #[.string s] w fun e w' =>
      e = .returned (takeV (if 30 < runN nameB s.data.toList then .inr 0 else .inl (1, s.data.toList.take (runN nameB s.data.toList), 0, runN nameB s.data.toList))) ∧ Below w.heap.size w w' := by
  have a1 := span_name (w.alloc (.cells #[.int .i64 0, .string ⟨#[]⟩, .int .i64 0, .int .i64 0] 34)) s hs
  have hle : runN nameB s.data.toList ≤ s.size := by have := runN_le nameB s.data.toList; simpa using this
  generalize runN nameB s.data.toList = n at a1 hle
  have i0 : (0 : Int) ≤ (n : Int) := by omega
  have i1 : (n : Int) ≤ (s.size : Int) := by omega
  have HE : Hid (s.extract 0 n = ⟨(s.data.toList.take n).toArray⟩) := extract_front s n
  by_cases h : 30 < n
  · have q : decide ((30 : Int) < (n : Int)) = true := by simp; omega
    simp only [h, if_true]
    go_enter Tryd.func28, Tryd.ntmps28
    go_wp2_with fail
    refine a1.mono ?_
    rintro e w1 ⟨rfl, hw1⟩
    subst w1
    go_wp2_with fail
    exact bodyPost_ret (v := takeV (.inr 0)) (by simp [results, Tryd.results28, go_sem, takeV]) rfl ⟨rfl, ((Below.refl _ _).alloc (Nat.le_refl _) _)⟩
  · have q : decide ((30 : Int) < (n : Int)) = false := by simp; omega
    simp only [h, if_false]
    go_enter Tryd.func28, Tryd.ntmps28
    go_wp2_with fail
    refine a1.mono ?_
    rintro e w1 ⟨rfl, hw1⟩
    subst w1
    go_wp2_with fail
    exact bodyPost_ret (v := takeV (.inl (1, s.data.toList.take n, 0, n))) (by simp [results, Tryd.results28, go_sem, takeV, HE.out]) rfl ⟨rfl, ((Below.refl _ _).alloc (Nat.le_refl _) _)⟩

theorem runN_all {p : UInt8 → Bool} : ∀ (l : List UInt8) (j : Nat), j < runN p l → ∃ c, l[j]? = some c ∧ p c = true
  | [], j, h => by simp [runN] at h
  | c :: r, j, h => by
    unfold runN at h
    by_cases hc : p c = true
    · rw [if_pos hc] at h
      cases j with
      | zero => exact ⟨c, rfl, hc⟩
      | succ j =>
        obtain ⟨d, h1, h2⟩ := runN_all (p := p) r j (by omega)
        exact ⟨d, by simpa using h1, h2⟩
    · rw [if_neg hc] at h; omega
theorem numL_snoc (l : List UInt8) (c : UInt8) : numL (l ++ [c]) = 10 * numL l + (c.toNat - 48) := by simp [numL, List.foldl_append]
theorem numL_lt (l : List UInt8) (h : ∀ c ∈ l, digitB c = true) : numL l < 10 ^ l.length := by
  have : ∀ (l : List UInt8) (a : Nat), (∀ c ∈ l, digitB c = true) → l.foldl (fun n c => 10 * n + (c.toNat - 48)) a < (a + 1) * 10 ^ l.length := by
    intro l
    induction l with
    | nil => intro a _; simp
    | cons c r ih =>
      intro a ha
      have hd := ha c (List.mem_cons_self ..)
      simp only [digitB, Bool.and_eq_true, decide_eq_true_eq] at hd
      have := ih (10 * a + (c.toNat - 48)) fun d hd => ha d (List.mem_cons_of_mem _ hd)
      simp only [List.foldl_cons, List.length_cons]
      refine Nat.lt_of_lt_of_le this ?_
      rw [Nat.pow_succ, Nat.mul_comm (10 ^ r.length) 10, ← Nat.mul_assoc]
      exact Nat.mul_le_mul_right _ (by omega)
  simpa [numL] using this l 0 h
theorem digit_val {c : UInt8} (h : digitB c = true) : 48 ≤ c.toNat ∧ c.toNat ≤ 57 := by
  simpa [digitB] using h

theorem runN_front {p : UInt8 → Bool} {s : ByteArray} {i : Nat} (h : i < runN p s.data.toList) (hi : i < s.size) : p s[i] = true := by
  obtain ⟨c, h1, h2⟩ := runN_all _ _ h
  have h' : i < s.data.toList.length := by simpa using hi
  rw [List.getElem?_eq_getElem h'] at h1
  have : s[i] = c := by injection h1
  rw [this]; exact h2
theorem numL_front {s : ByteArray} {k : Nat} (h : k ≤ runN digitB s.data.toList) : numL (s.data.toList.take k) < 10 ^ k := by
  have hl : (s.data.toList.take k).length = k := by
    rw [List.length_take]; have := runN_le digitB s.data.toList; omega
  have := numL_lt (s.data.toList.take k) fun c hc => by
    obtain ⟨i, hi, rfl⟩ := List.getElem_of_mem hc
    rw [hl] at hi
    obtain ⟨d, h1, h2⟩ := runN_all (p := digitB) s.data.toList i (by omega)
    rw [List.getElem_take]
    rw [List.getElem?_eq_some_iff] at h1
    obtain ⟨_, h1⟩ := h1
    rw [h1]; exact h2
  rwa [hl] at this

set_option maxHeartbeats 2000000 in
theorem takeInt_any (w : World) (s : ByteArray) (hs : s.size ≤ 1000000) :
    Calls Tryd.prog 30 #[.string s] w fun e w' =>
      e = .returned (takeV (if 18 < runN digitB s.data.toList then .inr 0 else .inl (2, s.data.toList.take (runN digitB s.data.toList), numL (s.data.toList.take (runN digitB s.data.toList)), runN digitB s.data.toList))) ∧ Below w.heap.size w w' := by
  have a1 := span_digit (w.alloc (.cells #[.int .i64 0, .string ⟨#[]⟩, .int .i64 0, .int .i64 0] 34)) s hs
  have hle : runN digitB s.data.toList ≤ s.size := by have := runN_le digitB s.data.toList; simpa using this
  have HD : Hid (∀ i (hi : i < s.size), i < runN digitB s.data.toList → 48 ≤ s[i].toNat ∧ s[i].toNat ≤ 57) := fun i hi h => digit_val (runN_front h hi)
  have HN : Hid (∀ k, k ≤ runN digitB s.data.toList → numL (s.data.toList.take k) < 10 ^ k) := fun k h => numL_front h
  generalize runN digitB s.data.toList = n at a1 hle HD HN
  have i0 : (0 : Int) ≤ (n : Int) := by omega
  have i1 : (n : Int) ≤ (s.size : Int) := by omega
  have HE : Hid (s.extract 0 n = ⟨(s.data.toList.take n).toArray⟩) := extract_front s n
  by_cases h : 18 < n
  · have q : decide ((18 : Int) < (n : Int)) = true := by simp; omega
    simp only [h, if_true]
    go_enter Tryd.func30, Tryd.ntmps30
    go_wp2_with fail
    refine a1.mono ?_
    rintro e w1 ⟨rfl, hw1⟩
    subst w1
    go_wp2_with fail
    exact bodyPost_ret (v := takeV (.inr 0)) (by simp [results, Tryd.results30, go_sem, takeV]) rfl ⟨rfl, ((Below.refl _ _).alloc (Nat.le_refl _) _)⟩
  · have q : decide ((18 : Int) < (n : Int)) = false := by simp; omega
    simp only [h, if_false]
    go_enter Tryd.func30, Tryd.ntmps30
    go_wp2_with fail
    refine a1.mono ?_
    rintro e w1 ⟨rfl, hw1⟩
    subst w1
    go_wp2_with fail
    go_loopw [5, 13] (fun x i wr => ∃ k : Nat, k ≤ n ∧ i = .int .i64 k ∧ x = .int .i64 (numL (s.data.toList.take k) : Int) ∧ wr = w.alloc (.cells #[.int .i64 0, .string ⟨#[]⟩, .int .i64 0, .int .i64 0] 34)) (fun _ i _ => n - (intOf i).toNat)
    case atStart => exact ⟨0, Nat.zero_le _, rfl, rfl, rfl⟩
    case round =>
      obtain ⟨k, hkn, rfl, rfl, rfl⟩ := hrel
      have hb := HN.out k hkn
      have hb18 : (10 : Nat) ^ k ≤ 10 ^ 18 := Nat.pow_le_pow_right (by decide) (by omega)
      have hb2 : numL (s.data.toList.take k) < 1000000000000000000 := Nat.lt_of_lt_of_le hb hb18
      clear hb hb18
      by_cases hk : k < n
      · have hks : k < s.size := by omega
        have HT := numL_snoc (s.data.toList.take k) s[k]
        rw [← byte_take s hks] at HT
        obtain ⟨d0, d1⟩ := HD.out k hks hk
        have j0 : (0 : Int) ≤ (k : Int) := by omega
        have j1 : (k : Int) < (s.size : Int) := by omega
        have hb3 := HN.out (k + 1) (by omega)
        have hb183 : (10 : Nat) ^ (k + 1) ≤ 10 ^ 18 := Nat.pow_le_pow_right (by decide) (by omega)
        have hb4 : numL (s.data.toList.take (k + 1)) < 1000000000000000000 := Nat.lt_of_lt_of_le hb3 hb183
        clear hb3 hb183
        have HT' : Hid (numL (s.data.toList.take (k + 1)) = 10 * numL (s.data.toList.take k) + (s[k].toNat - 48)) := HT
        rw [HT] at hb4
        generalize numL (s.data.toList.take k) = m at *
        have hsub : IntKind.u8.wrap ((s[k].toNat : Int) - 48) = ((s[k].toNat - 48 : Nat) : Int) := by
          simp only [IntKind.wrap, IntKind.signed, IntKind.bits]
          simp
          omega
        clear HT
        go_wp2_with fail
        go_roundw
        case rel => exact ⟨k + 1, by omega, by go_num, by rw [HT'.out]; go_num, by first | rfl | trivial⟩
        case measure => simp [intOf]; omega
      · have hkn' : k = n := by omega
        subst hkn'
        go_wp2_with fail
        exact bodyPost_ret (v := takeV (.inl (2, s.data.toList.take k, numL (s.data.toList.take k), k))) (by simp [results, Tryd.results30, go_sem, takeV, HE.out]) rfl ⟨rfl, ((Below.refl _ _).alloc (Nat.le_refl _) _)⟩

end Go.Proofs.YtppihaaipkmpcaaDoor
