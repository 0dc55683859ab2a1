/- Tokens in memory. Contracts of the program's takeName, takeInt, takeMark. Contracts of the program's markSize and takeMark. The library's contracts at this program: each an application of a theorem of the library's. -/
import Derived.Test.YtailfiofcicloaaGreatDoorR11
import Derived.Test.YtailfiofcicloaaGreatDoorR07
import Derived.Test.YtailfiofcicloaaGreatDoorR12
import Derived.Shelf.Strings.Builder1
import Derived.Shelf.Strings.Builder2
import Derived.Shelf.LaysM
import Derived.Shelf.Strconv.Clone
import Derived.Shelf.Strings.Search1
import Derived.Shelf.Strings.Search2
import Derived.Shelf.Strings.Search3
import Derived.Shelf.Strings.Count
import Derived.Shelf.Strings.Shaped
import Derived.Shelf.Strings.Prefix
import Derived.Shelf.Strings.Split
import Derived.Shelf.Strings.Replace
import Derived.Shelf.Unicode.DecodeSlow
import Derived.Test.YtailfiofcicloaaGreatDoorProg

namespace Go.Proofs.YtailfiofcicloaaGreatDoor
open Go.RowKit Go.Sort

/-- A token as a value. -/
abbrev T4 (k : Int) (t : ByteArray) (n a : Int) : Value := .agg #[.int .i64 k, .string t, .int .i64 n, .int .i64 a]
theorem extract_mid (s : ByteArray) (k e : Nat) : s.extract k e = ⟨((s.data.toList.drop k).take (e - k)).toArray⟩ := by
  refine toList_inj ?_
  rw [ByteArray.toList_eq, ByteArray.toList_eq]
  simp [ByteArray.extract, ByteArray.copySlice]

/-- A token in a block. -/
def TokAt (w : World) (b : Nat) (k : Int) (t : ByteArray) (n a : Int) : Prop := w.heap[b]? = some (.cells #[.int .i64 k, .string t, .int .i64 n, .int .i64 a] 67 (0, 0))
theorem TokAt.cells {w : World} {b : Nat} {k n a : Int} {t : ByteArray} (h : TokAt w b k t n a) : w.cell? ⟨b, 0, none⟩ = some (.int .i64 k) ∧ w.cell? ⟨b, 1, none⟩ = some (.string t) ∧ w.cell? ⟨b, 2, none⟩ = some (.int .i64 n) ∧ w.cell? ⟨b, 3, none⟩ = some (.int .i64 a) := by
  refine ⟨?_, ?_, ?_, ?_⟩ <;> (rw [cell_of_row w b _ _ _ _ h]; rfl)
theorem TokAt.frozen {w : World} {b : Nat} {k n a : Int} {t : ByteArray} (h : TokAt w b k t n a) (i : Nat) : w.frozen? ⟨b, i, none⟩ = false := frozen_of_row w b i _ _ h
theorem TokAt.lt {w : World} {b : Nat} {k n a : Int} {t : ByteArray} (h : TokAt w b k t n a) : b < w.heap.size := (Array.getElem?_eq_some_iff.1 h).1
theorem TokAt.keep {w w' : World} {b : Nat} {k n a : Int} {t : ByteArray} (h : TokAt w b k t n a) (g : Below w.heap.size w w') : TokAt w' b k t n a := (g.block b h.lt).trans h
theorem TokAt.alloc {w : World} {b : Nat} {k n a : Int} {t : ByteArray} (h : TokAt w b k t n a) (o : Obj) : TokAt (w.alloc o) b k t n a := h.keep ((Below.refl _ _).alloc (Nat.le_refl _) _)

/-- A token's cells. -/
def encT (t : Tk) : List Value := [.int .i64 t.1, .string t.2.1, .int .i64 t.2.2.1, .int .i64 t.2.2.2]
theorem encT_len (t : Tk) : (encT t).length = 4 := rfl
theorem encT_one (t : Tk) : ∀ u ∈ encT t, u.oneCell' = true := by
  intro u hu
  simp only [encT, List.mem_cons, List.not_mem_nil, or_false] at hu
  rcases hu with rfl | rfl | rfl | rfl <;> rfl
theorem info_T : (Tryz.prog.info? 67).map (fun i => (i.zero, i.size, i.bytes)) = some (some (.agg #[.int .i64 0, .string ⟨#[]⟩, .int .i64 0, .int .i64 0]), 4, 40) := by kernel_rfl
theorem aheadT_err {out : List Tk} {p : Nat} {e : Int} (h : e ≠ 0) (l : List Tk) : aheadT out (l, p, e) = ([], p, e) := by simp [aheadT, h]

theorem aheadT_form (out : List Tk) (r : List Tk × Nat × Int) : ((aheadT out r).2.2 = 0 → (aheadT out r).2.1 = 0) ∧ ((aheadT out r).2.2 ≠ 0 → (aheadT out r).1 = []) := by
  unfold aheadT
  by_cases h : r.2.2 = 0
  · rw [if_pos h]; exact ⟨fun _ => rfl, fun h => absurd rfl h⟩
  · rw [if_neg h]; exact ⟨fun h' => absurd h' h, fun _ => rfl⟩
/-- With an error no tokens; without one the place is 0. -/
theorem scanF_form : ∀ (f : Nat) (l : List UInt8) (o k : Nat), ((scanF f l o k).2.2 = 0 → (scanF f l o k).2.1 = 0) ∧ ((scanF f l o k).2.2 ≠ 0 → (scanF f l o k).1 = [])
  | 0, _, _, _ => ⟨fun _ => rfl, fun _ => rfl⟩
  | f + 1, [], o, k => by
    unfold scanF
    split
    · exact ⟨fun h => by simp at h, fun _ => rfl⟩
    · exact ⟨fun _ => rfl, fun h => absurd rfl h⟩
  | f + 1, c :: r, o, k => by
    unfold scanF
    split
    · exact scanF_form f _ _ _
    · split
      · exact scanF_form f _ _ _
      · split
        · exact ⟨fun h => by simp at h, fun _ => rfl⟩
        · split
          · exact ⟨fun h => by simp at h, fun _ => rfl⟩
          · exact aheadT_form _ _

end Go.Proofs.YtailfiofcicloaaGreatDoor

namespace Go.Proofs.YtailfiofcicloaaGreatDoor
open Go.RowKit Go.Sort

theorem entered {f : FuncId} {fn : Func} (hf : Tryz.prog.funcs[f]? = some fn) (hb : fn.body.isSome = true) (hname : (fn.name == "runtime.NumGoroutine") = false) (a : Array Value) (w : World) :
    (callFunc f a).run Tryz.prog w = .ok (.enter f a) w := by
  have h1 : fn.name ≠ "runtime.NumGoroutine" := by simpa using hname
  have h2 : fn.body ≠ none := by intro h; rw [h] at hb; cases hb
  simp [callFunc, hf, h1, h2]
theorem span_name (w : World) (s : ByteArray) (hs : s.size ≤ 1000000) : Calls Tryz.prog 39 #[.string s, .func (.func 94) #[] #[]] w fun e w' => e = .returned (.int .i64 (runN nameB s.data.toList : Int)) ∧ w' = w :=
  span_any 94 nameB (entered Tryz.func94 (by kernel_rfl) (by kernel_rfl)) name_any w s hs
theorem span_digit (w : World) (s : ByteArray) (hs : s.size ≤ 1000000) : Calls Tryz.prog 39 #[.string s, .func (.func 77) #[] #[]] w fun e w' => e = .returned (.int .i64 (runN digitB s.data.toList : Int)) ∧ w' = w :=
  span_any 77 digitB (entered Tryz.func77 (by kernel_rfl) (by kernel_rfl)) digit_any w s hs
theorem span_may (w : World) (s : ByteArray) (hs : s.size ≤ 1000000) : Calls Tryz.prog 39 #[.string s, .func (.func 97) #[] #[]] w fun e w' => e = .returned (.int .i64 (runN mayB s.data.toList : Int)) ∧ w' = w :=
  span_any 97 mayB (entered Tryz.func97 (by kernel_rfl) (by kernel_rfl)) may_any w s hs
theorem span_blank (w : World) (s : ByteArray) (hs : s.size ≤ 1000000) : Calls Tryz.prog 39 #[.string s, .func (.func 40) #[] #[]] w fun e w' => e = .returned (.int .i64 (runN blankB s.data.toList : Int)) ∧ w' = w :=
  span_any 40 blankB (entered Tryz.func40 (by kernel_rfl) (by kernel_rfl)) blank_any w s hs
theorem span_line (w : World) (s : ByteArray) (hs : s.size ≤ 1000000) : Calls Tryz.prog 39 #[.string s, .func (.func 42) #[] #[]] w fun e w' => e = .returned (.int .i64 (runN noEndB s.data.toList : Int)) ∧ w' = w :=
  span_any 42 noEndB (entered Tryz.func42 (by kernel_rfl) (by kernel_rfl)) noEnd_any w s hs

/-- What is taken, as the program tells it. -/
def takeV : (Int × List UInt8 × Nat × Nat) ⊕ Nat → Value
  | .inl (kind, t, n, len) => .tuple #[T4 kind ⟨t.toArray⟩ (n : Int) 0, .int .i64 (len : Int), .int .i64 (-1)]
  | .inr d => .tuple #[T4 0 ⟨#[]⟩ 0 0, .int .i64 0, .int .i64 (d : Int)]
theorem extract_front (s : ByteArray) (n : Nat) : s.extract 0 n = ⟨(s.data.toList.take n).toArray⟩ := by
  rw [extract_mid]; simp
theorem bset {a b : World} {q i : Nat} {v : Value} (h : Below a.heap.size a b) (hq : a.heap.size ≤ q) : Below a.heap.size a (b.setCell ⟨q, i, none⟩ v) := h.setCell hq v

set_option maxHeartbeats 1000000 in
theorem takeName_any (w : World) (s : ByteArray) (hs : s.size ≤ 1000000) :
    Calls Tryz.prog 76 #[.string s] w fun e w' =>
      e = .returned (takeV (if 30 < runN nameB s.data.toList then .inr 0 else .inl (1, s.data.toList.take (runN nameB s.data.toList), 0, runN nameB s.data.toList))) ∧ Below w.heap.size w w' := by
  have a1 := span_name (w.alloc (.cells #[.int .i64 0, .string ⟨#[]⟩, .int .i64 0, .int .i64 0] 67)) s hs
  have hle : runN nameB s.data.toList ≤ s.size := by have := runN_le nameB s.data.toList; simpa using this
  generalize runN nameB s.data.toList = n at a1 hle
  have i0 : (0 : Int) ≤ (n : Int) := by omega
  have i1 : (n : Int) ≤ (s.size : Int) := by omega
  have HE : Hid (s.extract 0 n = ⟨(s.data.toList.take n).toArray⟩) := extract_front s n
  by_cases h : 30 < n
  · have q : decide ((30 : Int) < (n : Int)) = true := by simp; omega
    simp only [h, if_true]
    go_enter Tryz.func76, Tryz.ntmps76
    go_wp2_with fail
    refine a1.mono ?_
    rintro e w1 ⟨rfl, hw1⟩
    subst w1
    go_wp2_with fail
    exact bodyPost_ret (v := takeV (.inr 0)) (by simp [results, Tryz.results76, go_sem, takeV]) rfl ⟨rfl, ((Below.refl _ _).alloc (Nat.le_refl _) _)⟩
  · have q : decide ((30 : Int) < (n : Int)) = false := by simp; omega
    simp only [h, if_false]
    go_enter Tryz.func76, Tryz.ntmps76
    go_wp2_with fail
    refine a1.mono ?_
    rintro e w1 ⟨rfl, hw1⟩
    subst w1
    go_wp2_with fail
    exact bodyPost_ret (v := takeV (.inl (1, s.data.toList.take n, 0, n))) (by simp [results, Tryz.results76, go_sem, takeV, HE.out]) rfl ⟨rfl, ((Below.refl _ _).alloc (Nat.le_refl _) _)⟩

theorem runN_all {p : UInt8 → Bool} : ∀ (l : List UInt8) (j : Nat), j < runN p l → ∃ c, l[j]? = some c ∧ p c = true
  | [], j, h => by simp [runN] at h
  | c :: r, j, h => by
    unfold runN at h
    by_cases hc : p c = true
    · rw [if_pos hc] at h
      cases j with
      | zero => exact ⟨c, rfl, hc⟩
      | succ j =>
        obtain ⟨d, h1, h2⟩ := runN_all (p := p) r j (by omega)
        exact ⟨d, by simpa using h1, h2⟩
    · rw [if_neg hc] at h; omega
theorem numL_snoc (l : List UInt8) (c : UInt8) : numL (l ++ [c]) = 10 * numL l + (c.toNat - 48) := by simp [numL, List.foldl_append]
theorem numL_lt (l : List UInt8) (h : ∀ c ∈ l, digitB c = true) : numL l < 10 ^ l.length := by
  have : ∀ (l : List UInt8) (a : Nat), (∀ c ∈ l, digitB c = true) → l.foldl (fun n c => 10 * n + (c.toNat - 48)) a < (a + 1) * 10 ^ l.length := by
    intro l
    induction l with
    | nil => intro a _; simp
    | cons c r ih =>
      intro a ha
      have hd := ha c (List.mem_cons_self ..)
      simp only [digitB, Bool.and_eq_true, decide_eq_true_eq] at hd
      have := ih (10 * a + (c.toNat - 48)) fun d hd => ha d (List.mem_cons_of_mem _ hd)
      simp only [List.foldl_cons, List.length_cons]
      refine Nat.lt_of_lt_of_le this ?_
      rw [Nat.pow_succ, Nat.mul_comm (10 ^ r.length) 10, ← Nat.mul_assoc]
      exact Nat.mul_le_mul_right _ (by omega)
  simpa [numL] using this l 0 h
theorem digit_val {c : UInt8} (h : digitB c = true) : 48 ≤ c.toNat ∧ c.toNat ≤ 57 := by
  simpa [digitB] using h

theorem runN_front {p : UInt8 → Bool} {s : ByteArray} {i : Nat} (h : i < runN p s.data.toList) (hi : i < s.size) : p s[i] = true := by
  obtain ⟨c, h1, h2⟩ := runN_all _ _ h
  have h' : i < s.data.toList.length := by simpa using hi
  rw [List.getElem?_eq_getElem h'] at h1
  have : s[i] = c := by injection h1
  rw [this]; exact h2
theorem numL_front {s : ByteArray} {k : Nat} (h : k ≤ runN digitB s.data.toList) : numL (s.data.toList.take k) < 10 ^ k := by
  have hl : (s.data.toList.take k).length = k := by
    rw [List.length_take]; have := runN_le digitB s.data.toList; omega
  have := numL_lt (s.data.toList.take k) fun c hc => by
    obtain ⟨i, hi, rfl⟩ := List.getElem_of_mem hc
    rw [hl] at hi
    obtain ⟨d, h1, h2⟩ := runN_all (p := digitB) s.data.toList i (by omega)
    rw [List.getElem_take]
    rw [List.getElem?_eq_some_iff] at h1
    obtain ⟨_, h1⟩ := h1
    rw [h1]; exact h2
  rwa [hl] at this

set_option maxHeartbeats 2000000 in
theorem takeInt_any (w : World) (s : ByteArray) (hs : s.size ≤ 1000000) :
    Calls Tryz.prog 78 #[.string s] w fun e w' =>
      e = .returned (takeV (if 18 < runN digitB s.data.toList then .inr 0 else .inl (2, s.data.toList.take (runN digitB s.data.toList), numL (s.data.toList.take (runN digitB s.data.toList)), runN digitB s.data.toList))) ∧ Below w.heap.size w w' := by
  have a1 := span_digit (w.alloc (.cells #[.int .i64 0, .string ⟨#[]⟩, .int .i64 0, .int .i64 0] 67)) s hs
  have hle : runN digitB s.data.toList ≤ s.size := by have := runN_le digitB s.data.toList; simpa using this
  have HD : Hid (∀ i (hi : i < s.size), i < runN digitB s.data.toList → 48 ≤ s[i].toNat ∧ s[i].toNat ≤ 57) := fun i hi h => digit_val (runN_front h hi)
  have HN : Hid (∀ k, k ≤ runN digitB s.data.toList → numL (s.data.toList.take k) < 10 ^ k) := fun k h => numL_front h
  generalize runN digitB s.data.toList = n at a1 hle HD HN
  have i0 : (0 : Int) ≤ (n : Int) := by omega
  have i1 : (n : Int) ≤ (s.size : Int) := by omega
  have HE : Hid (s.extract 0 n = ⟨(s.data.toList.take n).toArray⟩) := extract_front s n
  by_cases h : 18 < n
  · have q : decide ((18 : Int) < (n : Int)) = true := by simp; omega
    simp only [h, if_true]
    go_enter Tryz.func78, Tryz.ntmps78
    go_wp2_with fail
    refine a1.mono ?_
    rintro e w1 ⟨rfl, hw1⟩
    subst w1
    go_wp2_with fail
    exact bodyPost_ret (v := takeV (.inr 0)) (by simp [results, Tryz.results78, go_sem, takeV]) rfl ⟨rfl, ((Below.refl _ _).alloc (Nat.le_refl _) _)⟩
  · have q : decide ((18 : Int) < (n : Int)) = false := by simp; omega
    simp only [h, if_false]
    go_enter Tryz.func78, Tryz.ntmps78
    go_wp2_with fail
    refine a1.mono ?_
    rintro e w1 ⟨rfl, hw1⟩
    subst w1
    go_wp2_with fail
    go_loopw [5, 13] (fun x i wr => ∃ k : Nat, k ≤ n ∧ i = .int .i64 k ∧ x = .int .i64 (numL (s.data.toList.take k) : Int) ∧ wr = w.alloc (.cells #[.int .i64 0, .string ⟨#[]⟩, .int .i64 0, .int .i64 0] 67)) (fun _ i _ => n - (intOf i).toNat)
    case atStart => exact ⟨0, Nat.zero_le _, rfl, rfl, rfl⟩
    case round =>
      obtain ⟨k, hkn, rfl, rfl, rfl⟩ := hrel
      have hb := HN.out k hkn
      have hb18 : (10 : Nat) ^ k ≤ 10 ^ 18 := Nat.pow_le_pow_right (by decide) (by omega)
      have hb2 : numL (s.data.toList.take k) < 1000000000000000000 := Nat.lt_of_lt_of_le hb hb18
      clear hb hb18
      by_cases hk : k < n
      · have hks : k < s.size := by omega
        have HT := numL_snoc (s.data.toList.take k) s[k]
        rw [← byte_take s hks] at HT
        obtain ⟨d0, d1⟩ := HD.out k hks hk
        have j0 : (0 : Int) ≤ (k : Int) := by omega
        have j1 : (k : Int) < (s.size : Int) := by omega
        have hb3 := HN.out (k + 1) (by omega)
        have hb183 : (10 : Nat) ^ (k + 1) ≤ 10 ^ 18 := Nat.pow_le_pow_right (by decide) (by omega)
        have hb4 : numL (s.data.toList.take (k + 1)) < 1000000000000000000 := Nat.lt_of_lt_of_le hb3 hb183
        clear hb3 hb183
        have HT' : Hid (numL (s.data.toList.take (k + 1)) = 10 * numL (s.data.toList.take k) + (s[k].toNat - 48)) := HT
        rw [HT] at hb4
        generalize numL (s.data.toList.take k) = m at *
        have hsub : IntKind.u8.wrap ((s[k].toNat : Int) - 48) = ((s[k].toNat - 48 : Nat) : Int) := by
          simp only [IntKind.wrap, IntKind.signed, IntKind.bits]
          simp
          omega
        clear HT
        go_wp2_with fail
        go_roundw
        case rel => exact ⟨k + 1, by omega, by go_num, by rw [HT'.out]; go_num, by first | rfl | trivial⟩
        case measure => simp [intOf]; omega
      · have hkn' : k = n := by omega
        subst hkn'
        go_wp2_with fail
        exact bodyPost_ret (v := takeV (.inl (2, s.data.toList.take k, numL (s.data.toList.take k), k))) (by simp [results, Tryz.results78, go_sem, takeV, HE.out]) rfl ⟨rfl, ((Below.refl _ _).alloc (Nat.le_refl _) _)⟩

end Go.Proofs.YtailfiofcicloaaGreatDoor

namespace Go.Proofs.YtailfiofcicloaaGreatDoor
open Go.RowKit Go.Sort

/-- How many bytes the mark has that begins with c, with d behind it. -/
def markC (c d : Nat) : Nat :=
  if c = 124 then (if d = 124 then 2 else 0)
  else if c = 60 then (if d = 62 then 2 else if d = 61 then 2 else 1)
  else if c = 62 then (if d = 61 then 2 else 1)
  else if c = 40 ∨ c = 41 ∨ c = 44 ∨ c = 59 ∨ c = 46 ∨ c = 42 ∨ c = 43 ∨ c = 45 ∨ c = 47 ∨ c = 37 ∨ c = 61 ∨ c = 123 ∨ c = 125 ∨ c = 58 then 1 else 0

theorem mark_cases (c : Nat) : c = 124 ∨ c = 60 ∨ c = 62 ∨ c = 40 ∨ c = 41 ∨ c = 44 ∨ c = 59 ∨ c = 46 ∨ c = 42 ∨ c = 43 ∨ c = 45 ∨ c = 47 ∨ c = 37 ∨ c = 61 ∨ c = 123 ∨ c = 125 ∨ c = 58 ∨ (¬ c = 124 ∧ ¬ c = 60 ∧ ¬ c = 62 ∧ ¬ c = 40 ∧ ¬ c = 41 ∧ ¬ c = 44 ∧ ¬ c = 59 ∧ ¬ c = 46 ∧ ¬ c = 42 ∧ ¬ c = 43 ∧ ¬ c = 45 ∧ ¬ c = 47 ∧ ¬ c = 37 ∧ ¬ c = 61 ∧ ¬ c = 123 ∧ ¬ c = 125 ∧ ¬ c = 58) := by omega

set_option maxRecDepth 100000 in
set_option maxHeartbeats 4000000 in
theorem markSize_any (w : World) (s : ByteArray) (h0 : 0 < s.size) (hs : s.size ≤ 1000000) :
    Calls Tryz.prog 98 #[.string s] w fun e w' => e = .returned (.int .i64 (markC s[0].toNat (if h : 1 < s.size then s[1].toNat else 0) : Int)) ∧ w' = w := by
  have i0 : (0 : Int) < (s.size : Int) := by omega
  by_cases h1 : 1 < s.size
  · have j1 : decide ((1 : Int) < (s.size : Int)) = true := by simp; omega
    have i1 : (1 : Int) < (s.size : Int) := by omega
    simp only [h1, dite_true]
    rcases mark_cases s[0].toNat with hc | hc | hc | hc | hc | hc | hc | hc | hc | hc | hc | hc | hc | hc | hc | hc | hc | hc
    · have k : (s[0].toNat : Int) = 124 := by omega
      by_cases h124 : s[1].toNat = 124
      · have k2 : (s[1].toNat : Int) = 124 := by omega
        have HM : Hid (markC s[0].toNat s[1].toNat = 2) := by show markC _ _ = _; rw [hc, h124]; rfl
        go_enter Tryz.func98, Tryz.ntmps98
        go_wp2_with fail
        go_ret
        exact ⟨HM.out.symm ▸ rfl, rfl⟩
      have n124 : ((s[1].toNat : Int) == 124) = false := by rw [beq_eq_false_iff_ne]; omega
      have HM : Hid (markC s[0].toNat s[1].toNat = 0) := by show markC _ _ = _; rw [hc]; simp [markC, h124]
      clear h124
      go_enter Tryz.func98, Tryz.ntmps98
      go_wp2_with fail
      go_ret
      exact ⟨HM.out.symm ▸ rfl, rfl⟩
    · have k : (s[0].toNat : Int) = 60 := by omega
      by_cases h62 : s[1].toNat = 62
      · have k2 : (s[1].toNat : Int) = 62 := by omega
        have HM : Hid (markC s[0].toNat s[1].toNat = 2) := by show markC _ _ = _; rw [hc, h62]; rfl
        go_enter Tryz.func98, Tryz.ntmps98
        go_wp2_with fail
        go_ret
        exact ⟨HM.out.symm ▸ rfl, rfl⟩
      by_cases h61 : s[1].toNat = 61
      · have k2 : (s[1].toNat : Int) = 61 := by omega
        have HM : Hid (markC s[0].toNat s[1].toNat = 2) := by show markC _ _ = _; rw [hc, h61]; rfl
        go_enter Tryz.func98, Tryz.ntmps98
        go_wp2_with fail
        go_ret
        exact ⟨HM.out.symm ▸ rfl, rfl⟩
      have n62 : ((s[1].toNat : Int) == 62) = false := by rw [beq_eq_false_iff_ne]; omega
      have n61 : ((s[1].toNat : Int) == 61) = false := by rw [beq_eq_false_iff_ne]; omega
      have HM : Hid (markC s[0].toNat s[1].toNat = 1) := by show markC _ _ = _; rw [hc]; simp [markC, h62, h61]
      clear h62 h61
      go_enter Tryz.func98, Tryz.ntmps98
      go_wp2_with fail
      go_ret
      exact ⟨HM.out.symm ▸ rfl, rfl⟩
    · have k : (s[0].toNat : Int) = 62 := by omega
      by_cases h61 : s[1].toNat = 61
      · have k2 : (s[1].toNat : Int) = 61 := by omega
        have HM : Hid (markC s[0].toNat s[1].toNat = 2) := by show markC _ _ = _; rw [hc, h61]; rfl
        go_enter Tryz.func98, Tryz.ntmps98
        go_wp2_with fail
        go_ret
        exact ⟨HM.out.symm ▸ rfl, rfl⟩
      have n61 : ((s[1].toNat : Int) == 61) = false := by rw [beq_eq_false_iff_ne]; omega
      have HM : Hid (markC s[0].toNat s[1].toNat = 1) := by show markC _ _ = _; rw [hc]; simp [markC, h61]
      clear h61
      go_enter Tryz.func98, Tryz.ntmps98
      go_wp2_with fail
      go_ret
      exact ⟨HM.out.symm ▸ rfl, rfl⟩
    · have k : (s[0].toNat : Int) = 40 := by omega
      have HM : Hid (markC s[0].toNat s[1].toNat = 1) := by show markC _ _ = _; rw [hc]; simp [markC]
      go_enter Tryz.func98, Tryz.ntmps98
      go_wp2_with fail
      go_ret
      exact ⟨HM.out.symm ▸ rfl, rfl⟩
    · have k : (s[0].toNat : Int) = 41 := by omega
      have HM : Hid (markC s[0].toNat s[1].toNat = 1) := by show markC _ _ = _; rw [hc]; simp [markC]
      go_enter Tryz.func98, Tryz.ntmps98
      go_wp2_with fail
      go_ret
      exact ⟨HM.out.symm ▸ rfl, rfl⟩
    · have k : (s[0].toNat : Int) = 44 := by omega
      have HM : Hid (markC s[0].toNat s[1].toNat = 1) := by show markC _ _ = _; rw [hc]; simp [markC]
      go_enter Tryz.func98, Tryz.ntmps98
      go_wp2_with fail
      go_ret
      exact ⟨HM.out.symm ▸ rfl, rfl⟩
    · have k : (s[0].toNat : Int) = 59 := by omega
      have HM : Hid (markC s[0].toNat s[1].toNat = 1) := by show markC _ _ = _; rw [hc]; simp [markC]
      go_enter Tryz.func98, Tryz.ntmps98
      go_wp2_with fail
      go_ret
      exact ⟨HM.out.symm ▸ rfl, rfl⟩
    · have k : (s[0].toNat : Int) = 46 := by omega
      have HM : Hid (markC s[0].toNat s[1].toNat = 1) := by show markC _ _ = _; rw [hc]; simp [markC]
      go_enter Tryz.func98, Tryz.ntmps98
      go_wp2_with fail
      go_ret
      exact ⟨HM.out.symm ▸ rfl, rfl⟩
    · have k : (s[0].toNat : Int) = 42 := by omega
      have HM : Hid (markC s[0].toNat s[1].toNat = 1) := by show markC _ _ = _; rw [hc]; simp [markC]
      go_enter Tryz.func98, Tryz.ntmps98
      go_wp2_with fail
      go_ret
      exact ⟨HM.out.symm ▸ rfl, rfl⟩
    · have k : (s[0].toNat : Int) = 43 := by omega
      have HM : Hid (markC s[0].toNat s[1].toNat = 1) := by show markC _ _ = _; rw [hc]; simp [markC]
      go_enter Tryz.func98, Tryz.ntmps98
      go_wp2_with fail
      go_ret
      exact ⟨HM.out.symm ▸ rfl, rfl⟩
    · have k : (s[0].toNat : Int) = 45 := by omega
      have HM : Hid (markC s[0].toNat s[1].toNat = 1) := by show markC _ _ = _; rw [hc]; simp [markC]
      go_enter Tryz.func98, Tryz.ntmps98
      go_wp2_with fail
      go_ret
      exact ⟨HM.out.symm ▸ rfl, rfl⟩
    · have k : (s[0].toNat : Int) = 47 := by omega
      have HM : Hid (markC s[0].toNat s[1].toNat = 1) := by show markC _ _ = _; rw [hc]; simp [markC]
      go_enter Tryz.func98, Tryz.ntmps98
      go_wp2_with fail
      go_ret
      exact ⟨HM.out.symm ▸ rfl, rfl⟩
    · have k : (s[0].toNat : Int) = 37 := by omega
      have HM : Hid (markC s[0].toNat s[1].toNat = 1) := by show markC _ _ = _; rw [hc]; simp [markC]
      go_enter Tryz.func98, Tryz.ntmps98
      go_wp2_with fail
      go_ret
      exact ⟨HM.out.symm ▸ rfl, rfl⟩
    · have k : (s[0].toNat : Int) = 61 := by omega
      have HM : Hid (markC s[0].toNat s[1].toNat = 1) := by show markC _ _ = _; rw [hc]; simp [markC]
      go_enter Tryz.func98, Tryz.ntmps98
      go_wp2_with fail
      go_ret
      exact ⟨HM.out.symm ▸ rfl, rfl⟩
    · have k : (s[0].toNat : Int) = 123 := by omega
      have HM : Hid (markC s[0].toNat s[1].toNat = 1) := by show markC _ _ = _; rw [hc]; simp [markC]
      go_enter Tryz.func98, Tryz.ntmps98
      go_wp2_with fail
      go_ret
      exact ⟨HM.out.symm ▸ rfl, rfl⟩
    · have k : (s[0].toNat : Int) = 125 := by omega
      have HM : Hid (markC s[0].toNat s[1].toNat = 1) := by show markC _ _ = _; rw [hc]; simp [markC]
      go_enter Tryz.func98, Tryz.ntmps98
      go_wp2_with fail
      go_ret
      exact ⟨HM.out.symm ▸ rfl, rfl⟩
    · have k : (s[0].toNat : Int) = 58 := by omega
      have HM : Hid (markC s[0].toNat s[1].toNat = 1) := by show markC _ _ = _; rw [hc]; simp [markC]
      go_enter Tryz.func98, Tryz.ntmps98
      go_wp2_with fail
      go_ret
      exact ⟨HM.out.symm ▸ rfl, rfl⟩
    · have HM : Hid (markC s[0].toNat s[1].toNat = 0) := by show markC _ _ = _; unfold markC; simp only [hc, false_or, if_false]
      have n124 : ((s[0].toNat : Int) == 124) = false := by rw [beq_eq_false_iff_ne]; omega
      have n60 : ((s[0].toNat : Int) == 60) = false := by rw [beq_eq_false_iff_ne]; omega
      have n62 : ((s[0].toNat : Int) == 62) = false := by rw [beq_eq_false_iff_ne]; omega
      have n40 : ((s[0].toNat : Int) == 40) = false := by rw [beq_eq_false_iff_ne]; omega
      have n41 : ((s[0].toNat : Int) == 41) = false := by rw [beq_eq_false_iff_ne]; omega
      have n44 : ((s[0].toNat : Int) == 44) = false := by rw [beq_eq_false_iff_ne]; omega
      have n59 : ((s[0].toNat : Int) == 59) = false := by rw [beq_eq_false_iff_ne]; omega
      have n46 : ((s[0].toNat : Int) == 46) = false := by rw [beq_eq_false_iff_ne]; omega
      have n42 : ((s[0].toNat : Int) == 42) = false := by rw [beq_eq_false_iff_ne]; omega
      have n43 : ((s[0].toNat : Int) == 43) = false := by rw [beq_eq_false_iff_ne]; omega
      have n45 : ((s[0].toNat : Int) == 45) = false := by rw [beq_eq_false_iff_ne]; omega
      have n47 : ((s[0].toNat : Int) == 47) = false := by rw [beq_eq_false_iff_ne]; omega
      have n37 : ((s[0].toNat : Int) == 37) = false := by rw [beq_eq_false_iff_ne]; omega
      have n61 : ((s[0].toNat : Int) == 61) = false := by rw [beq_eq_false_iff_ne]; omega
      have n123 : ((s[0].toNat : Int) == 123) = false := by rw [beq_eq_false_iff_ne]; omega
      have n125 : ((s[0].toNat : Int) == 125) = false := by rw [beq_eq_false_iff_ne]; omega
      have n58 : ((s[0].toNat : Int) == 58) = false := by rw [beq_eq_false_iff_ne]; omega
      clear hc
      go_enter Tryz.func98, Tryz.ntmps98
      go_wp2_with fail
      go_ret
      exact ⟨HM.out.symm ▸ rfl, rfl⟩
  · have j1 : decide ((1 : Int) < (s.size : Int)) = false := by simp; omega
    simp only [h1, dite_false]
    rcases mark_cases s[0].toNat with hc | hc | hc | hc | hc | hc | hc | hc | hc | hc | hc | hc | hc | hc | hc | hc | hc | hc
    · have k : (s[0].toNat : Int) = 124 := by omega
      have HM : Hid (markC s[0].toNat 0 = 0) := by show markC _ _ = _; rw [hc]; simp [markC]
      go_enter Tryz.func98, Tryz.ntmps98
      go_wp2_with fail
      go_ret
      exact ⟨HM.out.symm ▸ rfl, rfl⟩
    · have k : (s[0].toNat : Int) = 60 := by omega
      have HM : Hid (markC s[0].toNat 0 = 1) := by show markC _ _ = _; rw [hc]; simp [markC]
      go_enter Tryz.func98, Tryz.ntmps98
      go_wp2_with fail
      go_ret
      exact ⟨HM.out.symm ▸ rfl, rfl⟩
    · have k : (s[0].toNat : Int) = 62 := by omega
      have HM : Hid (markC s[0].toNat 0 = 1) := by show markC _ _ = _; rw [hc]; simp [markC]
      go_enter Tryz.func98, Tryz.ntmps98
      go_wp2_with fail
      go_ret
      exact ⟨HM.out.symm ▸ rfl, rfl⟩
    · have k : (s[0].toNat : Int) = 40 := by omega
      have HM : Hid (markC s[0].toNat 0 = 1) := by show markC _ _ = _; rw [hc]; simp [markC]
      go_enter Tryz.func98, Tryz.ntmps98
      go_wp2_with fail
      go_ret
      exact ⟨HM.out.symm ▸ rfl, rfl⟩
    · have k : (s[0].toNat : Int) = 41 := by omega
      have HM : Hid (markC s[0].toNat 0 = 1) := by show markC _ _ = _; rw [hc]; simp [markC]
      go_enter Tryz.func98, Tryz.ntmps98
      go_wp2_with fail
      go_ret
      exact ⟨HM.out.symm ▸ rfl, rfl⟩
    · have k : (s[0].toNat : Int) = 44 := by omega
      have HM : Hid (markC s[0].toNat 0 = 1) := by show markC _ _ = _; rw [hc]; simp [markC]
      go_enter Tryz.func98, Tryz.ntmps98
      go_wp2_with fail
      go_ret
      exact ⟨HM.out.symm ▸ rfl, rfl⟩
    · have k : (s[0].toNat : Int) = 59 := by omega
      have HM : Hid (markC s[0].toNat 0 = 1) := by show markC _ _ = _; rw [hc]; simp [markC]
      go_enter Tryz.func98, Tryz.ntmps98
      go_wp2_with fail
      go_ret
      exact ⟨HM.out.symm ▸ rfl, rfl⟩
    · have k : (s[0].toNat : Int) = 46 := by omega
      have HM : Hid (markC s[0].toNat 0 = 1) := by show markC _ _ = _; rw [hc]; simp [markC]
      go_enter Tryz.func98, Tryz.ntmps98
      go_wp2_with fail
      go_ret
      exact ⟨HM.out.symm ▸ rfl, rfl⟩
    · have k : (s[0].toNat : Int) = 42 := by omega
      have HM : Hid (markC s[0].toNat 0 = 1) := by show markC _ _ = _; rw [hc]; simp [markC]
      go_enter Tryz.func98, Tryz.ntmps98
      go_wp2_with fail
      go_ret
      exact ⟨HM.out.symm ▸ rfl, rfl⟩
    · have k : (s[0].toNat : Int) = 43 := by omega
      have HM : Hid (markC s[0].toNat 0 = 1) := by show markC _ _ = _; rw [hc]; simp [markC]
      go_enter Tryz.func98, Tryz.ntmps98
      go_wp2_with fail
      go_ret
      exact ⟨HM.out.symm ▸ rfl, rfl⟩
    · have k : (s[0].toNat : Int) = 45 := by omega
      have HM : Hid (markC s[0].toNat 0 = 1) := by show markC _ _ = _; rw [hc]; simp [markC]
      go_enter Tryz.func98, Tryz.ntmps98
      go_wp2_with fail
      go_ret
      exact ⟨HM.out.symm ▸ rfl, rfl⟩
    · have k : (s[0].toNat : Int) = 47 := by omega
      have HM : Hid (markC s[0].toNat 0 = 1) := by show markC _ _ = _; rw [hc]; simp [markC]
      go_enter Tryz.func98, Tryz.ntmps98
      go_wp2_with fail
      go_ret
      exact ⟨HM.out.symm ▸ rfl, rfl⟩
    · have k : (s[0].toNat : Int) = 37 := by omega
      have HM : Hid (markC s[0].toNat 0 = 1) := by show markC _ _ = _; rw [hc]; simp [markC]
      go_enter Tryz.func98, Tryz.ntmps98
      go_wp2_with fail
      go_ret
      exact ⟨HM.out.symm ▸ rfl, rfl⟩
    · have k : (s[0].toNat : Int) = 61 := by omega
      have HM : Hid (markC s[0].toNat 0 = 1) := by show markC _ _ = _; rw [hc]; simp [markC]
      go_enter Tryz.func98, Tryz.ntmps98
      go_wp2_with fail
      go_ret
      exact ⟨HM.out.symm ▸ rfl, rfl⟩
    · have k : (s[0].toNat : Int) = 123 := by omega
      have HM : Hid (markC s[0].toNat 0 = 1) := by show markC _ _ = _; rw [hc]; simp [markC]
      go_enter Tryz.func98, Tryz.ntmps98
      go_wp2_with fail
      go_ret
      exact ⟨HM.out.symm ▸ rfl, rfl⟩
    · have k : (s[0].toNat : Int) = 125 := by omega
      have HM : Hid (markC s[0].toNat 0 = 1) := by show markC _ _ = _; rw [hc]; simp [markC]
      go_enter Tryz.func98, Tryz.ntmps98
      go_wp2_with fail
      go_ret
      exact ⟨HM.out.symm ▸ rfl, rfl⟩
    · have k : (s[0].toNat : Int) = 58 := by omega
      have HM : Hid (markC s[0].toNat 0 = 1) := by show markC _ _ = _; rw [hc]; simp [markC]
      go_enter Tryz.func98, Tryz.ntmps98
      go_wp2_with fail
      go_ret
      exact ⟨HM.out.symm ▸ rfl, rfl⟩
    · have HM : Hid (markC s[0].toNat 0 = 0) := by show markC _ _ = _; unfold markC; simp only [hc, false_or, if_false]
      have n124 : ((s[0].toNat : Int) == 124) = false := by rw [beq_eq_false_iff_ne]; omega
      have n60 : ((s[0].toNat : Int) == 60) = false := by rw [beq_eq_false_iff_ne]; omega
      have n62 : ((s[0].toNat : Int) == 62) = false := by rw [beq_eq_false_iff_ne]; omega
      have n40 : ((s[0].toNat : Int) == 40) = false := by rw [beq_eq_false_iff_ne]; omega
      have n41 : ((s[0].toNat : Int) == 41) = false := by rw [beq_eq_false_iff_ne]; omega
      have n44 : ((s[0].toNat : Int) == 44) = false := by rw [beq_eq_false_iff_ne]; omega
      have n59 : ((s[0].toNat : Int) == 59) = false := by rw [beq_eq_false_iff_ne]; omega
      have n46 : ((s[0].toNat : Int) == 46) = false := by rw [beq_eq_false_iff_ne]; omega
      have n42 : ((s[0].toNat : Int) == 42) = false := by rw [beq_eq_false_iff_ne]; omega
      have n43 : ((s[0].toNat : Int) == 43) = false := by rw [beq_eq_false_iff_ne]; omega
      have n45 : ((s[0].toNat : Int) == 45) = false := by rw [beq_eq_false_iff_ne]; omega
      have n47 : ((s[0].toNat : Int) == 47) = false := by rw [beq_eq_false_iff_ne]; omega
      have n37 : ((s[0].toNat : Int) == 37) = false := by rw [beq_eq_false_iff_ne]; omega
      have n61 : ((s[0].toNat : Int) == 61) = false := by rw [beq_eq_false_iff_ne]; omega
      have n123 : ((s[0].toNat : Int) == 123) = false := by rw [beq_eq_false_iff_ne]; omega
      have n125 : ((s[0].toNat : Int) == 125) = false := by rw [beq_eq_false_iff_ne]; omega
      have n58 : ((s[0].toNat : Int) == 58) = false := by rw [beq_eq_false_iff_ne]; omega
      clear hc
      go_enter Tryz.func98, Tryz.ntmps98
      go_wp2_with fail
      go_ret
      exact ⟨HM.out.symm ▸ rfl, rfl⟩

end Go.Proofs.YtailfiofcicloaaGreatDoor

namespace Go.Proofs
open Go.Shelf
def Tryz.laysM316_ren : Go.Shelf.Ren := ⟨fun | 316 => 81 | n => n, fun | 9 => 9 | 3 => 3 | 4 => 4 | 37 => 124 | 0 => 0 | 127 => 125 | 5 => 5 | n => n, fun | n => n⟩
theorem Tryz.laysM316 : Go.Proofs.LaysM.n316 Tryz.prog Tryz.laysM316_ren := {
  mixed := by kernel_rfl
  f316 := Tryz.func81.trans (congrArg some (by kernel_rfl))
  t0 := Tryz.underlying0
  a0 := Tryz.isAgg0
  z0 := Tryz.sizeOf0
  v0 := Tryz.zeroValue0
  t3 := Tryz.underlying3
  a3 := Tryz.isAgg3
  z3 := Tryz.sizeOf3
  v3 := Tryz.zeroValue3
  t4 := Tryz.underlying4
  a4 := Tryz.isAgg4
  z4 := Tryz.sizeOf4
  v4 := Tryz.zeroValue4
  t9 := Tryz.underlying9
  a9 := Tryz.isAgg9
  z9 := Tryz.sizeOf9
  v9 := Tryz.zeroValue9
  t37 := Tryz.underlying124
  a37 := Tryz.isAgg124
  z37 := Tryz.sizeOf124
  v37 := Tryz.zeroValue124
  t127 := Tryz.underlying125
  a127 := Tryz.isAgg125
  z127 := Tryz.sizeOf125
  v127 := Tryz.zeroValue125
  t5 := Tryz.underlying5
  a5 := Tryz.isAgg5
  z5 := Tryz.sizeOf5
  v5 := Tryz.zeroValue5
  i0 := by kernel_rfl
  i3 := by kernel_rfl
  i4 := by kernel_rfl
  i5 := by kernel_rfl
  i9 := by kernel_rfl
  i37 := by kernel_rfl
  i127 := by kernel_rfl }
open Go.RowKit in
theorem Tryz.stringslite_Clone (s : ByteArray) (w : World) (hlim : s.size ≤ 281474976710656) :
    Calls Tryz.prog 81 #[.string s] w fun e w' => e = .returned (.string s) ∧ Below w.heap.size w w' := Any.stringslite_Clone Tryz.laysM316 s w hlim
def Tryz.laysM138_ren : Go.Shelf.Ren := ⟨fun | 138 => 111 | 195 => 118 | 218 => 119 | 143 => 113 | 219 => 122 | 217 => 127 | 225 => 128 | 224 => 129 | 267 => 130 | 266 => 135 | 314 => 136 | n => n, fun | 9 => 9 | 3 => 3 | 4 => 4 | 5 => 5 | 0 => 0 | 46 => 148 | 146 => 154 | 51 => 153 | n => n, fun | 1 => 0 | n => n⟩
theorem Tryz.laysM138 : Go.Proofs.LaysM.n138 Tryz.prog Tryz.laysM138_ren := {
  mixed := by kernel_rfl
  f138 := Tryz.func111.trans (congrArg some (by kernel_rfl))
  f143 := Tryz.func113.trans (congrArg some (by kernel_rfl))
  f195 := Tryz.func118.trans (congrArg some (by kernel_rfl))
  f217 := Tryz.func127.trans (congrArg some (by kernel_rfl))
  f218 := Tryz.func119.trans (congrArg some (by kernel_rfl))
  f219 := Tryz.func122.trans (congrArg some (by kernel_rfl))
  f224 := Tryz.func129.trans (congrArg some (by kernel_rfl))
  f225 := Tryz.func128.trans (congrArg some (by kernel_rfl))
  f266 := Tryz.func135.trans (congrArg some (by kernel_rfl))
  f267 := Tryz.func130.trans (congrArg some (by kernel_rfl))
  f314 := Tryz.func136.trans (congrArg some (by kernel_rfl))
  t0 := Tryz.underlying0
  a0 := Tryz.isAgg0
  z0 := Tryz.sizeOf0
  v0 := Tryz.zeroValue0
  t3 := Tryz.underlying3
  a3 := Tryz.isAgg3
  z3 := Tryz.sizeOf3
  v3 := Tryz.zeroValue3
  t4 := Tryz.underlying4
  a4 := Tryz.isAgg4
  z4 := Tryz.sizeOf4
  v4 := Tryz.zeroValue4
  t5 := Tryz.underlying5
  a5 := Tryz.isAgg5
  z5 := Tryz.sizeOf5
  v5 := Tryz.zeroValue5
  t9 := Tryz.underlying9
  a9 := Tryz.isAgg9
  z9 := Tryz.sizeOf9
  v9 := Tryz.zeroValue9
  t46 := Tryz.underlying148
  a46 := Tryz.isAgg148
  z46 := Tryz.sizeOf148
  v46 := Tryz.zeroValue148
  t51 := Tryz.underlying153
  a51 := Tryz.isAgg153
  z51 := Tryz.sizeOf153
  v51 := Tryz.zeroValue153
  t146 := Tryz.underlying154
  a146 := Tryz.isAgg154
  z146 := Tryz.sizeOf154
  v146 := Tryz.zeroValue154
  g1 := by kernel_rfl
  i0 := by kernel_rfl
  i3 := by kernel_rfl
  i4 := by kernel_rfl
  i5 := by kernel_rfl
  i9 := by kernel_rfl
  i46 := by kernel_rfl
  i51 := by kernel_rfl
  i146 := by kernel_rfl
  m1 := by kernel_rfl
  s1_3 := fun w h => Go.Proofs.cell_of_shapedOpen_int (zero := #[.int .i64 0]) (t := 3) h (of_decide_eq_true (by kernel_rfl)) (by kernel_rfl) rfl (by kernel_rfl) (by kernel_rfl) Tryz.underlying3 }
def Tryz.lays99_ren : Go.Shelf.Ren := ⟨fun | 99 => 41 | 206 => 74 | n => n, fun | 9 => 9 | 4 => 4 | 3 => 3 | n => n, fun | n => n⟩
theorem Tryz.lays99 : Go.Proofs.Lays.n99 Tryz.prog Tryz.lays99_ren := {
  mixed := by kernel_rfl
  f99 := Tryz.func41.trans (congrArg some (by kernel_rfl))
  f206 := Tryz.func74.trans (congrArg some (by kernel_rfl))
  t3 := Tryz.underlying3
  a3 := Tryz.isAgg3
  z3 := Tryz.sizeOf3
  v3 := Tryz.zeroValue3
  t4 := Tryz.underlying4
  a4 := Tryz.isAgg4
  z4 := Tryz.sizeOf4
  v4 := Tryz.zeroValue4
  t9 := Tryz.underlying9
  a9 := Tryz.isAgg9
  z9 := Tryz.sizeOf9
  v9 := Tryz.zeroValue9 }
open Go.RowKit Go.Lib in
theorem Tryz.strings_HasPrefix (s p : ByteArray) (w : World) :
    Calls Tryz.prog 41 #[.string s, .string p] w fun e w' => e = .returned (.bool (Lib.hasPrefix s.data.toList p.data.toList)) ∧ w' = w := Any.strings_HasPrefix Tryz.lays99 s p w
def Tryz.lays155_ren : Go.Shelf.Ren := ⟨fun | 155 => 96 | 154 => 106 | 138 => 111 | 165 => 112 | 143 => 113 | 166 => 114 | 197 => 115 | 169 => 116 | 195 => 118 | 218 => 119 | 240 => 120 | 241 => 121 | 219 => 122 | 260 => 123 | 276 => 125 | 277 => 126 | 217 => 127 | 225 => 128 | 224 => 129 | 267 => 130 | 266 => 135 | 314 => 136 | n => n, fun | 9 => 9 | 3 => 3 | 4 => 4 | 72 => 135 | 0 => 0 | 76 => 139 | 105 => 141 | 21 => 21 | 5 => 5 | 70 => 133 | 20 => 20 | 37 => 124 | 75 => 138 | 127 => 125 | 164 => 144 | 46 => 148 | 119 => 149 | 139 => 152 | 138 => 151 | 146 => 154 | 51 => 153 | 80 => 112 | n => n, fun | 1 => 0 | 3 => 1 | 4 => 2 | n => n⟩
theorem Tryz.lays155 : Go.Proofs.Lays.n155 Tryz.prog Tryz.lays155_ren := {
  mixed := by kernel_rfl
  f138 := Tryz.func111.trans (congrArg some (by kernel_rfl))
  f143 := Tryz.func113.trans (congrArg some (by kernel_rfl))
  f154 := Tryz.func106.trans (congrArg some (by kernel_rfl))
  f155 := Tryz.func96.trans (congrArg some (by kernel_rfl))
  f165 := Tryz.func112.trans (congrArg some (by kernel_rfl))
  f166 := Tryz.func114.trans (congrArg some (by kernel_rfl))
  f169 := Tryz.func116.trans (congrArg some (by kernel_rfl))
  f195 := Tryz.func118.trans (congrArg some (by kernel_rfl))
  f197 := Tryz.func115.trans (congrArg some (by kernel_rfl))
  f217 := Tryz.func127.trans (congrArg some (by kernel_rfl))
  f218 := Tryz.func119.trans (congrArg some (by kernel_rfl))
  f219 := Tryz.func122.trans (congrArg some (by kernel_rfl))
  f224 := Tryz.func129.trans (congrArg some (by kernel_rfl))
  f225 := Tryz.func128.trans (congrArg some (by kernel_rfl))
  f240 := Tryz.func120.trans (congrArg some (by kernel_rfl))
  f241 := Tryz.func121.trans (congrArg some (by kernel_rfl))
  f260 := Tryz.func123.trans (congrArg some (by kernel_rfl))
  f266 := Tryz.func135.trans (congrArg some (by kernel_rfl))
  f267 := Tryz.func130.trans (congrArg some (by kernel_rfl))
  f276 := Tryz.func125.trans (congrArg some (by kernel_rfl))
  f277 := Tryz.func126.trans (congrArg some (by kernel_rfl))
  f314 := Tryz.func136.trans (congrArg some (by kernel_rfl))
  t0 := Tryz.underlying0
  a0 := Tryz.isAgg0
  z0 := Tryz.sizeOf0
  v0 := Tryz.zeroValue0
  t3 := Tryz.underlying3
  a3 := Tryz.isAgg3
  z3 := Tryz.sizeOf3
  v3 := Tryz.zeroValue3
  t4 := Tryz.underlying4
  a4 := Tryz.isAgg4
  z4 := Tryz.sizeOf4
  v4 := Tryz.zeroValue4
  t5 := Tryz.underlying5
  a5 := Tryz.isAgg5
  z5 := Tryz.sizeOf5
  v5 := Tryz.zeroValue5
  t9 := Tryz.underlying9
  a9 := Tryz.isAgg9
  z9 := Tryz.sizeOf9
  v9 := Tryz.zeroValue9
  t20 := Tryz.underlying20
  a20 := Tryz.isAgg20
  z20 := Tryz.sizeOf20
  v20 := Tryz.zeroValue20
  t21 := Tryz.underlying21
  a21 := Tryz.isAgg21
  z21 := Tryz.sizeOf21
  v21 := Tryz.zeroValue21
  t37 := Tryz.underlying124
  a37 := Tryz.isAgg124
  z37 := Tryz.sizeOf124
  v37 := Tryz.zeroValue124
  t46 := Tryz.underlying148
  a46 := Tryz.isAgg148
  z46 := Tryz.sizeOf148
  v46 := Tryz.zeroValue148
  t51 := Tryz.underlying153
  a51 := Tryz.isAgg153
  z51 := Tryz.sizeOf153
  v51 := Tryz.zeroValue153
  t70 := Tryz.underlying133
  a70 := Tryz.isAgg133
  z70 := Tryz.sizeOf133
  v70 := Tryz.zeroValue133
  t72 := Tryz.underlying135
  a72 := Tryz.isAgg135
  z72 := Tryz.sizeOf135
  v72 := Tryz.zeroValue135
  t75 := Tryz.underlying138
  a75 := Tryz.isAgg138
  z75 := Tryz.sizeOf138
  v75 := Tryz.zeroValue138
  t76 := Tryz.underlying139
  a76 := Tryz.isAgg139
  z76 := Tryz.sizeOf139
  v76 := Tryz.zeroValue139
  t105 := Tryz.underlying141
  a105 := Tryz.isAgg141
  z105 := Tryz.sizeOf141
  v105 := Tryz.zeroValue141
  t119 := Tryz.underlying149
  a119 := Tryz.isAgg149
  z119 := Tryz.sizeOf149
  t127 := Tryz.underlying125
  a127 := Tryz.isAgg125
  z127 := Tryz.sizeOf125
  v127 := Tryz.zeroValue125
  t138 := Tryz.underlying151
  a138 := Tryz.isAgg151
  z138 := Tryz.sizeOf151
  v138 := Tryz.zeroValue151
  t139 := Tryz.underlying152
  a139 := Tryz.isAgg152
  z139 := Tryz.sizeOf152
  v139 := Tryz.zeroValue152
  t146 := Tryz.underlying154
  a146 := Tryz.isAgg154
  z146 := Tryz.sizeOf154
  v146 := Tryz.zeroValue154
  t164 := Tryz.underlying144
  a164 := Tryz.isAgg144
  z164 := Tryz.sizeOf144
  v164 := Tryz.zeroValue144
  g1 := by kernel_rfl
  g3 := by kernel_rfl
  g4 := by kernel_rfl }
theorem Tryz.Builder_Extra_155 : Builder.Extra Tryz.prog Tryz.lays155_ren := {
  sizeBuilder := by kernel_rfl
  liesBuilder := by kernel_rfl
  t5 := Tryz.underlying5
  a5 := Tryz.isAgg5
  z5 := Tryz.sizeOf5
  v5 := Tryz.zeroValue5
  infoByte := by kernel_rfl
  cellsByte := by kernel_rfl
  sizeByte := by kernel_rfl
  neB5 := by decide }
open Go.RowKit Go.Lib in
theorem Tryz.strings_ReplaceAll (s old new : ByteArray) (m : Int) (w : World) (hs : s.size < 4294967281) (hm : w.cell? ⟨0, 0, none⟩ = some (.int .i64 m)) (h1 : 1 ≤ old.size) (hlen : s.size + Lib.countB s old * new.size ≤ 140737488355328) :
    Calls Tryz.prog 96 #[.string s, .string old, .string new] w fun e w' =>
      e = .returned (.string ⟨(Lib.replaceAll s.data.toList old.data.toList new.data.toList).toArray⟩) ∧ Below w.heap.size w w' := Any.strings_ReplaceAll Tryz.lays155 Tryz.Builder_Extra_155 s old new m w hs hm h1 hlen
end Go.Proofs
