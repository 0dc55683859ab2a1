/- Contract of how the program tells a text and a value. -/
import Derived.Test.YtcnbbmgclphfdaaDoorRpSpell
namespace Go.Proofs.YtcnbbmgclphfdaaDoor
open Go.RowKit Go.Sort

def spellsL (l : List UInt8) : List UInt8 := l.flatMap spellL
theorem spellL_len (c : UInt8) : (spellL c).length ≤ 3 := by
  unfold spellL; split
  · simp
  · split <;> simp
theorem spellsL_len (l : List UInt8) : (spellsL l).length ≤ 3 * l.length := by
  induction l with
  | nil => simp [spellsL]
  | cons c r ih =>
    have := spellL_len c
    simp only [spellsL, List.flatMap_cons, List.length_append, List.length_cons] at ih ⊢
    omega
theorem spellsL_snoc (l : List UInt8) (c : UInt8) : spellsL (l ++ [c]) = spellsL l ++ spellL c := by simp [spellsL]
/-- A text's text. -/
def quoteL (l : List UInt8) : List UInt8 := 39 :: (spellsL l ++ [39])
def quoteB (s : ByteArray) : ByteArray := ⟨(quoteL s.data.toList).toArray⟩
theorem byte_take' (s : ByteArray) {k : Nat} (h : k < s.size) : s.data.toList.take (k + 1) = s.data.toList.take k ++ [s[k]] := by
  have h' : k < s.data.toList.length := by simpa using h
  rw [List.take_succ_eq_append_getElem h']
  rfl
theorem mk_size (l : List UInt8) : (⟨l.toArray⟩ : ByteArray).size = l.length := by
  show l.toArray.size = _
  simp
theorem IsB.fresh (w : World) : IsB w.heap.size w.heap.size [] (w.alloc (.cells #[.pointer none, .slice none 0 0] 61)) :=
  .inl ⟨Nat.le_refl _, .slice none 0 0, heap_alloc_new w _, ⟨rfl, .inl ⟨rfl, rfl⟩⟩, by simp [Value.ownBlock]⟩

set_option maxHeartbeats 2000000 in
set_option maxRecDepth 100000 in
theorem quoted_any (w : World) (s : ByteArray) (hs : s.size ≤ 1000000) : Calls Tryd.prog 31 #[.string s] w fun e w' => e = .returned (.string (quoteB s)) ∧ Below w.heap.size w w' := by
  have hf := IsB.fresh w
  have bW : Below w.heap.size w (w.alloc (.cells #[.pointer none, .slice none 0 0] 61)) := (Below.refl _ _).alloc (Nat.le_refl _) _
  go_enter Tryd.func31, Tryd.ntmps31
  go_wp2_with fail
  generalize w.alloc (.cells #[.pointer none, .slice none 0 0] 61) = W at hf bW ⊢
  refine (writeString_any w.heap.size w.heap.size [] ⟨#[39]⟩ W hf (by decide) bW.size).mono ?_
  rintro e w1 ⟨rfl, hf1, b1⟩
  replace b1 := bW.trans b1
  clear hf bW
  go_wp2_with fail
  go_loopw [8] (fun i wr => ∃ j : Nat, j ≤ s.size ∧ i = .int .i64 j ∧ IsB w.heap.size w.heap.size (39 :: spellsL (s.data.toList.take j)) wr ∧ Below w.heap.size w wr) (fun i _ => s.size - (intOf i).toNat)
  case atStart => exact ⟨0, Nat.zero_le _, rfl, hf1, b1⟩
  case round =>
    clear hf1 b1
    obtain ⟨j, hj, rfl, hB, hbel⟩ := hrel
    have hlen := spellsL_len (s.data.toList.take j)
    rw [List.length_take] at hlen
    have hl1 : (39 :: spellsL (s.data.toList.take j)).length ≤ 3000001 := by simp; omega
    clear hlen
    by_cases h : j < s.size
    · have ht : 39 :: spellsL (s.data.toList.take (j + 1)) = (39 :: spellsL (s.data.toList.take j)) ++ spellL s[j] := by
        rw [byte_take' s h, spellsL_snoc]; rfl
      have HT : Hid (39 :: spellsL (s.data.toList.take (j + 1)) = (39 :: spellsL (s.data.toList.take j)) ++ spellL s[j]) := ht
      have hl2 := spellL_len s[j]
      have sp := spelled_any wr s[j]
      clear ht
      generalize 39 :: spellsL (s.data.toList.take j) = L at *
      go_wp2_with fail
      refine sp.mono ?_
      rintro e w2 ⟨rfl, b2⟩
      replace hB := hB.keep b2
      replace hbel := btrans hbel b2
      go_wp2_with fail
      refine (writeString_any w.heap.size w.heap.size L ⟨(spellL s[j]).toArray⟩ w2 hB (by rw [mk_size]; omega) hbel.size).mono ?_
      rintro e w3 ⟨rfl, hB3, b3⟩
      go_wp2_with fail
      go_roundw
      case rel => exact ⟨j + 1, by omega, by go_num, by rw [HT.out]; simpa using hB3, hbel.trans b3⟩
      case measure => simp [intOf]; omega
    · have hjs : j = s.size := by omega
      subst hjs
      have HQ : Hid (quoteB s = ⟨((39 :: spellsL (s.data.toList.take s.size)) ++ [39]).toArray⟩) := by
        show quoteB s = _
        rw [List.take_of_length_le (by simp)]; rfl
      generalize 39 :: spellsL (s.data.toList.take s.size) = L at *
      go_wp2_with fail
      refine (writeString_any w.heap.size w.heap.size L ⟨#[39]⟩ wr hB (by rw [show (⟨#[39]⟩ : ByteArray).size = 1 from rfl]; omega) hbel.size).mono ?_
      rintro e w3 ⟨rfl, hB3, b3⟩
      replace b3 := hbel.trans b3
      go_wp2_with fail
      refine (string_any w.heap.size w.heap.size _ w3 hB3 b3.size).mono ?_
      rintro e w4 ⟨rfl, _, b4⟩
      replace b4 := b3.trans b4
      go_wp2_with fail
      go_ret
      exact ⟨by rw [HQ.out]; rfl, b4⟩

end Go.Proofs.YtcnbbmgclphfdaaDoor
