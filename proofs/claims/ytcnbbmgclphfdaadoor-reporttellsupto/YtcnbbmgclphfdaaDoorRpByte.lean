/- Contract of how the program reads a byte of a text. -/
import Derived.Test.YtcnbbmgclphfdaaDoorRpQuote
namespace Go.Proofs.YtcnbbmgclphfdaaDoor
open Go.RowKit Go.Sort

/-- The library reads the two digits of a byte. -/
def HexOK (c : UInt8) : Prop := ∀ w : World, Calls Tryd.prog 90 #[.string ⟨#[hexD (c.toNat / 16), hexD (c.toNat % 16)]⟩, .int .i64 16, .int .i64 8] w fun e w' => e = .returned (.tuple #[.int .u64 (c.toNat : Int), .nilIface]) ∧ Below w.heap.size w w'

theorem size_of_list {s : ByteArray} {l : List UInt8} (h : s.data.toList = l) : s.size = l.length := by rw [← h]; simp
theorem at_of_list {s : ByteArray} {a : UInt8} {l : List UInt8} (h : s.data.toList = a :: l) (h0 : 0 < s.size) : s[0] = a := by
  have : s.data.toList[0]'(by simpa using h0) = a := by simp [h]
  exact this

set_option maxHeartbeats 2000000 in
set_option maxRecDepth 100000 in
theorem takeByte_miss (w : World) (s : ByteArray) (rest : List UInt8) (h : s.data.toList = 39 :: rest) (hr : rest.head? ≠ some 39) : Calls Tryd.prog 75 #[.string s] w fun e w' => e = .returned (.tuple #[.int .u8 0, .int .i64 0]) ∧ Below w.heap.size w w' := by
  have h0 : 0 < s.size := by rw [size_of_list h]; simp
  have ha := at_of_list h h0
  have hne : (s.toList == []) = false := by rw [ByteArray.toList_eq, h]; rfl
  have hp1 : Lib.hasPrefix s.data.toList [92] = false := by rw [h]; simp [Lib.hasPrefix, List.isPrefixOf]
  have hp2 : Lib.hasPrefix s.data.toList [39, 39] = false := by
    rw [h]
    cases rest with
    | nil => rfl
    | cons x r =>
      have : x ≠ 39 := fun e => hr (by rw [e]; rfl)
      simp [Lib.hasPrefix, List.isPrefixOf, Ne.symm this]
  have k1 := Tryd.strings_HasPrefix s ⟨#[92]⟩ w
  rw [show (⟨#[92]⟩ : ByteArray).data.toList = [92] from rfl, hp1] at k1
  have k2 := fun w' => Tryd.strings_HasPrefix s ⟨#[39, 39]⟩ w'
  rw [show (⟨#[39, 39]⟩ : ByteArray).data.toList = [39, 39] from rfl, hp2] at k2
  have ks := spelled_any w 39
  rw [show spellL 39 = [39, 39] from rfl] at ks
  clear hp1 hp2
  go_enter Tryd.func75, Tryd.ntmps75
  go_wp2_with fail
  refine k1.mono ?_
  rintro e w1 ⟨rfl, hw⟩
  subst hw
  go_wp2_with fail
  refine ks.mono ?_
  rintro e w2 ⟨rfl, b2⟩
  go_wp2_with fail
  refine (k2 w2).mono ?_
  rintro e w3 ⟨rfl, hw⟩
  subst hw
  go_wp2_with fail
  go_ret2
  exact ⟨rfl, b2⟩

theorem isPrefix_append (p r : List UInt8) : Lib.hasPrefix (p ++ r) p = true := by
  unfold Lib.hasPrefix
  induction p with
  | nil => rfl
  | cons a q ih => simp [ih]

set_option maxHeartbeats 2000000 in
set_option maxRecDepth 100000 in
theorem takeByte_hit (w : World) (s : ByteArray) (c : UInt8) (rest : List UInt8) (h : s.data.toList = spellL c ++ rest) (hsz : s.size ≤ 1000000) (hx : escB c = true → HexOK c) :
    Calls Tryd.prog 75 #[.string s] w fun e w' => e = .returned (.tuple #[.int .u8 (c.toNat : Int), .int .i64 ((spellL c).length : Int)]) ∧ Below w.heap.size w w' := by
  have hp2 : Lib.hasPrefix s.data.toList (spellL c) = true := by rw [h]; exact isPrefix_append _ _
  have k2 := fun w' => Tryd.strings_HasPrefix s ⟨(spellL c).toArray⟩ w'
  rw [show (⟨(spellL c).toArray⟩ : ByteArray).data.toList = spellL c by simp, hp2] at k2
  have k1 := fun w' => Tryd.strings_HasPrefix s ⟨#[92]⟩ w'
  rw [show (⟨#[92]⟩ : ByteArray).data.toList = [92] from rfl] at k1
  have ks := fun w' => spelled_any w' c
  have hlen := mk_size (spellL c)
  clear hp2
  by_cases hesc : escB c = true
  · have h39 : c.toNat ≠ 39 := by
      intro e
      simp [escB, e] at hesc
    have hs : spellL c = [92, hexD (c.toNat / 16), hexD (c.toNat % 16)] := by unfold spellL; rw [if_neg h39, if_pos hesc]
    have hl : s.data.toList = 92 :: ([hexD (c.toNat / 16), hexD (c.toNat % 16)] ++ rest) := by rw [h, hs]; rfl
    have h3 : 3 ≤ s.size := by rw [size_of_list hl]; simp
    have h0 : 0 < s.size := by omega
    have ha := at_of_list hl h0
    have hne : (s.toList == []) = false := by rw [ByteArray.toList_eq, hl]; rfl
    have hp1 : Lib.hasPrefix s.data.toList [92] = true := by rw [hl]; simp [Lib.hasPrefix, List.isPrefixOf]
    rw [hp1] at k1
    have hxt : s.extract 1 3 = ⟨#[hexD (c.toNat / 16), hexD (c.toNat % 16)]⟩ := by
      refine toList_inj ?_
      rw [ByteArray.toList_eq, ByteArray.toList_eq]
      have : (s.extract 1 3).data.toList = (s.data.toList.drop 1).take 2 := by simp [ByteArray.extract, ByteArray.copySlice]
      rw [this, hl]; rfl
    have kx := fun w' => hx hesc w'
    rw [← hxt] at kx
    have HL : Hid ((spellL c).length = 3) := by show (spellL c).length = 3; rw [hs]; rfl
    have e3 : (3 : Int) ≤ (s.size : Int) := by omega
    have hcr : (c.toNat : Int) < 256 := by have := c.toNat_lt; omega
    clear hp1 hl hs hesc h39 hxt h hx
    generalize (⟨(spellL c).toArray⟩ : ByteArray) = told at *
    generalize (spellL c).length = tl at *
    go_enter Tryd.func75, Tryd.ntmps75
    go_wp2_with fail
    refine (k1 w).mono ?_
    rintro e w1 ⟨rfl, hw⟩
    subst hw
    go_wp2_with fail
    refine (kx _).mono ?_
    rintro e w2 ⟨rfl, b2⟩
    go_wp2_with fail
    refine (ks w2).mono ?_
    rintro e w3 ⟨rfl, b3⟩
    replace b2 := btrans b2 b3
    go_wp2_with fail
    refine (k2 w3).mono ?_
    rintro e w4 ⟨rfl, hw⟩
    subst hw
    go_wp2_with fail
    go_ret2
    exact ⟨by rw [← hlen]; rfl, b2⟩
  · have hs0 : ∃ tl, spellL c = c :: tl := by
      unfold spellL
      by_cases h39 : c.toNat = 39
      · have e39 : c = 39 := UInt8.toNat_inj.1 h39
        exact ⟨[39], by rw [if_pos h39, e39]⟩
      · exact ⟨[], by rw [if_neg h39, if_neg hesc]⟩
    obtain ⟨tl, hs⟩ := hs0
    have hl : s.data.toList = c :: (tl ++ rest) := by rw [h, hs]; rfl
    have h0 : 0 < s.size := by rw [size_of_list hl]; simp
    have ha := at_of_list hl h0
    have hne : (s.toList == []) = false := by rw [ByteArray.toList_eq, hl]; rfl
    have h92 : ¬ (92 : UInt8) = c := by
      intro e
      subst e
      exact hesc rfl
    have hp1 : Lib.hasPrefix s.data.toList [92] = false := by rw [hl]; simp [Lib.hasPrefix, List.isPrefixOf, h92]
    rw [hp1] at k1
    clear hp1 hl hs hesc h92 h hx
    generalize (⟨(spellL c).toArray⟩ : ByteArray) = told at *
    generalize (spellL c).length = tl at *
    go_enter Tryd.func75, Tryd.ntmps75
    go_wp2_with fail
    refine (k1 w).mono ?_
    rintro e w1 ⟨rfl, hw⟩
    subst hw
    go_wp2_with fail
    refine (ks w1).mono ?_
    rintro e w3 ⟨rfl, b3⟩
    go_wp2_with fail
    refine (k2 w3).mono ?_
    rintro e w4 ⟨rfl, hw⟩
    subst hw
    go_wp2_with fail
    go_ret2
    exact ⟨by rw [← hlen]; rfl, b3⟩

end Go.Proofs.YtcnbbmgclphfdaaDoor
