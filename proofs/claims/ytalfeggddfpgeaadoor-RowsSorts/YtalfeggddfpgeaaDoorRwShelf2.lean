/- newShelf, shelved, get and Groups. -/
import Derived.Test.YtalfeggddfpgeaaDoorRwShelf
import Derived.Test.YtalfeggddfpgeaaDoorRwPlace
import Derived.Carry
namespace Go.Proofs.YtalfeggddfpgeaaDoor
open Go.RowKit Go.Sort

theorem put_any (w : World) (base pb : Nat) (S : Sh) (k : ByteArray) (p : Int) (h : ShelfAt w base pb S) (hb : base ≤ w.heap.size) (hk : k.size ≤ maxLen) (hS : S.length ≤ 1000) (hl : ∀ e ∈ S, e.2.length ≤ 1000) :
    Calls Tryd.prog 34 #[.pointer (some ⟨pb, 0, none⟩), .string k, .int .i64 p] w fun e w' => e = .returned (.tuple #[]) ∧ ShelfAt w' base pb (putS S k p) ∧ Below base w w' := by
  cases hi : idxS S k with
  | none => exact put_none w base pb S k p h hb hk hS hl hi
  | some i => exact put_some w base pb i S k p h hb hk hl hi

theorem newShelf_any (w : World) : Calls Tryd.prog 33 #[] w fun e w' => ∃ pb, e = .returned (.pointer (some ⟨pb, 0, none⟩)) ∧ ShelfAt w' w.heap.size pb [] ∧ Below w.heap.size w w' := by
  have hmm := @run_makeMap Tryd.prog
  go_enter Tryd.func33, Tryd.ntmps33
  go_wp2
  go_ret
  refine ⟨_, rfl, ⟨w.heap.size, 0, .slice none 0 0, [], ?_, ?_, Nat.le_refl _, ?_, Nat.le_refl _, Own1.nil _ _ _, rfl, fun i h => absurd h (by simp), fun i j h => absurd h (by simp)⟩, ?_⟩
  · have := heap_alloc_new (w.alloc (.map #[] 0)) (.cells #[.map (some w.heap.size), .slice none 0 0] 54)
    simpa using this
  · omega
  · exact (MapS.made w).keep ((Below.refl _ _).alloc (Nat.le_refl _) _)
  · exact ((Below.refl _ w).alloc (Nat.le_refl _) _).alloc (by simp) _

theorem encS_size {l : Row} (hr : RightR l) (hl : l.length ≤ 60) : (encS l).size ≤ maxLen := by
  have h1 := encRow_length hr.2
  have h2 : (encS l).size = (encRow l).length := by rw [encS, if_pos hr.1]; simp [ByteArray.size]
  rw [h2]
  unfold maxLen
  omega
/-- All rows are gone through. -/
def RightL (L : List Row) : Prop := ∀ r ∈ L, RightR r ∧ r.length ≤ 40

set_option maxHeartbeats 2000000 in
theorem shelved_any (w : World) (v : Value) (L : List Row) (hl : LiesR w v L) (hr : RightL L) (hlen : L.length ≤ 1000) :
    Calls Tryd.prog 25 #[v] w fun e w' => ∃ pb, e = .returned (.pointer (some ⟨pb, 0, none⟩)) ∧ ShelfAt w' w.heap.size pb (shP (enumR L L.length)) ∧ Below w.heap.size w w' := by
  obtain ⟨ao, cap, rfl, hn, hc⟩ := hl
  clear hn
  go_enter Tryd.func25, Tryd.ntmps25
  go_wp2_with (go_at_call 33; refine (newShelf_any _).mono ?_; rintro e w1 ⟨pb, rfl, hs1, hb1⟩)
  go_loopw [9] (fun i wr => ∃ k : Nat, k ≤ L.length ∧ i = .int .i64 k ∧ ShelfAt wr w.heap.size pb (shP (enumR L k)) ∧ Below w.heap.size w wr) (fun i _ => L.length - (intOf i).toNat)
  case atStart => exact ⟨0, Nat.zero_le _, rfl, hs1, hb1⟩
  case round =>
    obtain ⟨k, hk, rfl, hs, hbel⟩ := hrel
    clear hs1 hb1
    have hsz := hbel.size
    by_cases hlt : k < L.length
    · obtain ⟨b, off, r, rfl, g1, g2⟩ := lieR_at hc hbel hlt
      have HT : Hid (shP (enumR L (k + 1)) = putS (shP (enumR L k)) (encS L[k]) (k : Int)) := by show _ = _; rw [enumR_succ hlt, shP_snoc]
      obtain ⟨hR, hR40⟩ := hr _ (List.getElem_mem hlt)
      have hes := encS_size hR (by omega)
      obtain ⟨hsl, hsb⟩ := shP_len (enumR L k)
      rw [enumR_length] at hsl hsb
      generalize L[k] = R at g1 g2 HT hR hR40 hes
      have HC : Aside _ := hc
      clear hc
      have HSB : Aside _ := hsb
      clear hsb
      go_wp2_with (first
        | (go_at_call 32; refine (bytesOf_any _ _ R g2 hR (by omega)).mono ?_; rintro e w2 ⟨rfl, hb2⟩; have hs2 := hs.keep hb2; have hz2 := hb2.size)
        | (go_at_call 34; refine (put_any _ _ _ _ _ _ hs2 (by omega) hes (by omega) (fun e he => by have := HSB.out e he; omega)).mono ?_; rintro e w3 ⟨rfl, hs3, hb3⟩))
      go_roundw
      case rel => exact ⟨k + 1, by omega, by go_num, by rw [HT.out]; exact hs3, (btrans hbel hb2).trans hb3⟩
      case measure => simp [intOf]; omega
    · have hkk : k = L.length := by omega
      subst hkk
      go_wp2
      go_ret
      exact ⟨_, rfl, hs, hbel⟩

/-- v is a slice of lists of numbers and holds G. -/
def LiesG (w : World) (v : Value) (G : List (List Int)) : Prop :=
  ∃ ao cap, v = .slice ao G.length cap ∧ ∀ i (h : i < G.length), ∃ b off r, ao = some ⟨b, off, none⟩ ∧ w.cell? ⟨b, off + i, none⟩ = some r ∧ LiesN w r G[i]
theorem LiesG.keep {w w' : World} {v : Value} {G : List (List Int)} (h : LiesG w v G) (k : Below w.heap.size w w') : LiesG w' v G := by
  obtain ⟨ao, cap, rfl, hc⟩ := h
  refine ⟨ao, cap, rfl, fun i hi => ?_⟩
  obtain ⟨b, off, r, h0, h1, h2⟩ := hc i hi
  exact ⟨b, off, r, h0, cell_keep h1 k, h2.keep k⟩
/-- The groups of rows. -/
def grpR (L : List Row) : List (List Int) := (distR L).map fun r => plc (enumR L L.length) r
theorem enumR_right {L : List Row} (hr : RightL L) : ∀ x ∈ enumR L L.length, RightR x.2 := fun x hx => by
  obtain ⟨h1, _, h2⟩ := enumR_mem (Nat.le_refl _) hx
  rw [h2]
  exact (hr _ (List.getElem_mem h1)).1
theorem grp_shP {L : List Row} (hr : RightL L) : (shP (enumR L L.length)).map (·.2) = grpR L := by
  rw [shP_all _ (enumR_right hr), enumR_rows (Nat.le_refl _), List.take_length, List.map_map]
  rfl

set_option maxHeartbeats 1000000 in
theorem groups_any (w : World) (v : Value) (L : List Row) (hl : LiesR w v L) (hr : RightL L) (hlen : L.length ≤ 1000) :
    Calls Tryd.prog 14 #[v] w fun e w' => ∃ u, e = .returned u ∧ LiesG w' u (grpR L) ∧ Below w.heap.size w w' := by
  go_enter Tryd.func14, Tryd.ntmps14
  go_wp2_with (go_at_call 25; refine (shelved_any _ _ L hl hr hlen).mono ?_; rintro e w1 ⟨pb, rfl, hs1, hb1⟩; obtain ⟨mb, n, pl, vs, h1, h2, h3, h4, h5, h6, h7⟩ := hs1; have p1 : w1.cell? ⟨pb, 1, none⟩ = some pl := (by rw [cell_of_row _ _ _ _ _ _ h1]; rfl); have W : Aside _ := And.intro h6 h7; clear h1 h2 h3 h4 h5 h6 h7)
  go_ret
  refine ⟨_, rfl, ?_, hb1⟩
  obtain ⟨h6, h7⟩ := W.out
  rw [← grp_shP hr]
  obtain ⟨ao, cap, h0, _, hc⟩ := h6.lies
  refine ⟨ao, cap, by rw [h0, h7.1, List.length_map]; rfl, fun i hi => ?_⟩
  have hiS : i < (shP (enumR L L.length)).length := by simpa using hi
  have hiV : i < vs.length := by rw [h7.1]; exact hiS
  obtain ⟨b, off, g1, g2⟩ := hc i hiV
  refine ⟨b, off, _, g1, g2, ?_⟩
  simpa using (h7.2.1 i hiV hiS).lies.ints

end Go.Proofs.YtalfeggddfpgeaaDoor
