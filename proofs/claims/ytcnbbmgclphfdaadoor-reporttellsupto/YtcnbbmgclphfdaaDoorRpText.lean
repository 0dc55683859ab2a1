/- Contract of how the program reads a text. -/
import Derived.Test.YtcnbbmgclphfdaaDoorRpByte
namespace Go.Proofs.YtcnbbmgclphfdaaDoor
open Go.RowKit Go.Sort

/-- What takeByte tells at the front of what is left. -/
def headC (l : List UInt8) : Int := match l with | [] => 0 | c :: _ => (c.toNat : Int)
def headN (l : List UInt8) : Int := match l with | [] => 0 | c :: _ => ((spellL c).length : Int)
theorem takeByte_head (w : World) (s : ByteArray) (todo rest : List UInt8) (h : s.data.toList = spellsL todo ++ 39 :: rest) (hr : rest.head? ≠ some 39) (hsz : s.size ≤ 1000000) (hx : ∀ c ∈ todo, escB c = true → HexOK c) :
    Calls Tryd.prog 75 #[.string s] w fun e w' => e = .returned (.tuple #[.int .u8 (headC todo), .int .i64 (headN todo)]) ∧ Below w.heap.size w w' := by
  cases todo with
  | nil => exact takeByte_miss w s rest h hr
  | cons c r =>
    refine takeByte_hit w s c (spellsL r ++ 39 :: rest) ?_ hsz (hx c (by simp))
    rw [h]
    simp [spellsL]
theorem headN_pos (c : UInt8) (r : List UInt8) : 1 ≤ headN (c :: r) := by
  show 1 ≤ ((spellL c).length : Int)
  have : spellL c ≠ [] := by
    unfold spellL; split
    · simp
    · split <;> simp
  have h2 : 0 < (spellL c).length := List.length_pos_iff.2 this
  omega
theorem spellsL_ge (l : List UInt8) : l.length ≤ (spellsL l).length := by
  induction l with
  | nil => simp [spellsL]
  | cons c r ih =>
    have := headN_pos c r
    have h2 : 1 ≤ (spellL c).length := by have : (1 : Int) ≤ ((spellL c).length : Int) := this; omega
    simp only [spellsL, List.flatMap_cons, List.length_append, List.length_cons] at ih ⊢
    omega
theorem extract_from (s : ByteArray) (k : Nat) : (s.extract k s.size).data.toList = s.data.toList.drop k := by
  have : (s.extract k s.size).data.toList = (s.data.toList.drop k).take (s.size - k) := by simp [ByteArray.extract, ByteArray.copySlice]
  rw [this, List.take_of_length_le (by simp)]

set_option maxHeartbeats 2000000 in
set_option maxRecDepth 100000 in
theorem takeText_any (w : World) (s : ByteArray) (t rest : List UInt8) (h : s.data.toList = spellsL t ++ 39 :: rest) (hr : rest.head? ≠ some 39) (hsz : s.size ≤ 1000000) (hx : ∀ c ∈ t, escB c = true → HexOK c) :
    Calls Tryd.prog 64 #[.string s] w fun e w' => e = .returned (.tuple #[V 3 0 ⟨t.toArray⟩, .string ⟨rest.toArray⟩, .bool true]) ∧ Below w.heap.size w w' := by
  obtain ⟨W0, hW0⟩ : ∃ W0, W0 = w.alloc (.cells #[.int .i64 0, .int .i64 0, .string E0] 28) := ⟨_, rfl⟩
  have hs0 : W0.heap.size = w.heap.size + 1 := by rw [hW0]; simp
  have b0 : Below w.heap.size w W0 := by rw [hW0]; exact (Below.refl _ _).alloc (Nat.le_refl _) _
  have hA : W0.heap[w.heap.size]? = some (.cells #[.int .i64 0, .int .i64 0, .string E0] 28 (0, 0)) := by rw [hW0]; exact heap_alloc_new w _
  have hf := IsB.fresh W0
  obtain ⟨W1, hW1⟩ : ∃ W1, W1 = W0.alloc (.cells #[.pointer none, .slice none 0 0] 61) := ⟨_, rfl⟩
  rw [← hW1] at hf
  have b1 : Below W0.heap.size W0 W1 := by rw [hW1]; exact (Below.refl _ _).alloc (Nat.le_refl _) _
  rw [hs0] at hf b1
  have kt := takeByte_head W1 s t rest h hr hsz hx
  have htl : t.length ≤ 1000000 := by
    have h1 := spellsL_ge t
    have h2 := size_of_list h
    simp at h2
    omega
  go_enter Tryd.func64, Tryd.ntmps64
  go_wp2_with fail
  rw [← hW0, ← hW1]
  clear hW0 hW1
  refine kt.mono ?_
  rintro e w2 ⟨rfl, b2⟩
  replace hf := hf.keep b2
  replace b1 : Below (w.heap.size + 1) W0 w2 := b1.trans (b2.mono (by have := b1.size; omega))
  clear kt b2
  go_wp2_with fail
  go_loopw [0, 6, 7] (fun x c z wr => ∃ (sc : ByteArray) (done todo : List UInt8), x = .string sc ∧ c = .int .u8 (headC todo) ∧ z = .int .i64 (headN todo) ∧ t = done ++ todo ∧ sc.data.toList = spellsL todo ++ 39 :: rest ∧ sc.size ≤ 1000000 ∧ IsB (w.heap.size + 1) (w.heap.size + 1) done wr ∧ Below (w.heap.size + 1) W0 wr) (fun x _ _ _ => match x with | .string sc => sc.size | _ => 0)
  case atStart => exact ⟨s, [], t, rfl, rfl, rfl, rfl, h, hsz, hf, b1⟩
  case round =>
    clear hf b1
    obtain ⟨sc, done, todo, rfl, rfl, rfl, htd, hsc, hz, hB, hbel⟩ := hrel
    cases todo with
    | nil =>
      have hd : done = t := by rw [htd]; simp
      subst hd
      have hsc' : sc.data.toList = 39 :: rest := hsc
      have kc := Tryd.strings_CutPrefix sc ⟨#[39]⟩ wr
      rw [show (⟨#[39]⟩ : ByteArray).data.toList = [39] from rfl, hsc', show Lib.hasPrefix (39 :: rest) [39] = true by simp [Lib.hasPrefix], show Lib.trimPrefix (39 :: rest) [39] = rest by simp [Lib.trimPrefix, Lib.hasPrefix]] at kc
      rw [show headC [] = 0 from rfl, show headN [] = 0 from rfl]
      have hB1 : w.heap.size + 1 ≤ wr.heap.size := by have := hbel.size; omega
      clear hsc hsc' htd h
      go_wp2_with fail
      refine kc.mono ?_
      rintro e w3 ⟨rfl, hw⟩
      subst hw
      go_wp2_with fail
      refine (string_any (w.heap.size + 1) (w.heap.size + 1) done w3 hB hB1).mono ?_
      rintro e w4 ⟨rfl, _, b4⟩
      replace b4 := hbel.trans b4
      go_wp2_with fail
      refine (text_any ⟨done.toArray⟩ w4).mono ?_
      rintro e w5 ⟨rfl, b5⟩
      replace b5 : Below (w.heap.size + 1) W0 w5 := b4.trans (b5.mono (by have := b4.size; omega))
      have hA5 : w5.heap[w.heap.size]? = some (.cells #[.int .i64 0, .int .i64 0, .string E0] 28 (0, 0)) := (b5.block w.heap.size (by omega)).trans hA
      have q0 : w5.cell? ⟨w.heap.size, 0, none⟩ = some (.int .i64 0) := by rw [cell_of_row w5 w.heap.size 0 _ _ _ hA5]; rfl
      have q1 : w5.cell? ⟨w.heap.size, 1, none⟩ = some (.int .i64 0) := by rw [cell_of_row w5 w.heap.size 1 _ _ _ hA5]; rfl
      have q2 : w5.cell? ⟨w.heap.size, 2, none⟩ = some (.string E0) := by rw [cell_of_row w5 w.heap.size 2 _ _ _ hA5]; rfl
      have f0 : w5.frozen? ⟨w.heap.size, 0, none⟩ = false := frozen_of_row w5 w.heap.size 0 _ _ hA5
      have f1 : w5.frozen? ⟨w.heap.size, 1, none⟩ = false := frozen_of_row w5 w.heap.size 1 _ _ hA5
      have f2 : w5.frozen? ⟨w.heap.size, 2, none⟩ = false := frozen_of_row w5 w.heap.size 2 _ _ hA5
      have bb : Below w.heap.size w w5 := b0.trans (b5.mono (by omega))
      clear hA hA5 b4 b5 hbel hB kc b0
      go_wp2_with fail
      exact bodyPost_ret (v := .tuple #[V 3 0 ⟨done.toArray⟩, .string ⟨rest.toArray⟩, .bool true]) (by simp [results, Tryd.results64, go_sem, q0, q1, q2]) rfl ⟨rfl, bset3 bb (Nat.le_refl _) _ _ _⟩
    | cons c r =>
      have hp := headN_pos c r
      have hB1 : w.heap.size + 1 ≤ wr.heap.size := by have := hbel.size; omega
      have hdl : done.length ≤ 1000000 := by
        have := congrArg List.length htd
        simp at this
        omega
      have kb := writeByte_any (w.heap.size + 1) (w.heap.size + 1) done c wr hB (by omega) hB1
      rw [show headC (c :: r) = (c.toNat : Int) from rfl]
      obtain ⟨k, hk⟩ : ∃ k : Nat, headN (c :: r) = (k : Int) := ⟨(spellL c).length, rfl⟩
      have hkl : k = (spellL c).length := by have : ((spellL c).length : Int) = k := hk; omega
      rw [hk] at hp ⊢
      have hks : k ≤ sc.size := by
        rw [size_of_list hsc, hkl]; simp [spellsL]
      have hx1 : (sc.extract k sc.size).data.toList = spellsL r ++ 39 :: rest := by
        rw [extract_from, hsc, hkl]
        simp [spellsL]
      have hxs : (sc.extract k sc.size).size = sc.size - k := by simp
      have kt := fun w' => takeByte_head w' (sc.extract k sc.size) r rest hx1 hr (by omega) (fun x hx' => hx x (by rw [htd]; simp [hx']))
      have HX : Hid ((sc.extract k sc.size).data.toList = spellsL r ++ 39 :: rest) := hx1
      have HT : Hid (t = (done ++ [c]) ++ r) := by show t = _; rw [htd]; simp
      clear hx1 hsc htd h hkl hk
      go_wp2_with fail
      refine kb.mono ?_
      rintro e w3 ⟨rfl, hB3, b3⟩
      replace b3 := hbel.trans b3
      go_wp2_with fail
      refine (kt w3).mono ?_
      rintro e w4 ⟨rfl, b4⟩
      replace hB3 := hB3.keep b4
      replace b4 : Below (w.heap.size + 1) W0 w4 := b3.trans (b4.mono (by have := b3.size; omega))
      go_wp2_with fail
      go_roundw
      case rel => exact ⟨_, done ++ [c], r, rfl, rfl, rfl, HT.out, HX.out, by omega, hB3, b4⟩
      case measure => simp; omega

end Go.Proofs.YtcnbbmgclphfdaaDoor
