/- Tools of all layers: how contracts are joined, slices of texts, of pairs of texts and of numbers in memory, and slices of the calls' own whose elements are one cell each. Contracts of the document's letter, digit, blank, Marks, Words and Word. Contract of the document's Line. Contracts of the program's tests of bytes, and of span with each of them. -/
import Derived.Test.YtckidlbmoalomaaGreatDoorChecked
import Derived.WalkKit
import Derived.WalkLawsBesides
import Derived.Outline
import Derived.Lib.QuietBelow
import Derived.BigQuiet
import Derived.OwnWalk
import Derived.Laws.AppendOwnNone
import Derived.Laws.OwnMore
import Derived.Laws.CopyOwn
import Derived.Deep.RegionLaw
import Derived.Test.YtckidlbmoalomaaGreatDoorJ07


namespace Go.Proofs.YtckidlbmoalomaaGreatDoor
open Go.RowKit Go.Sort

abbrev E0 : ByteArray := ⟨#[]⟩
theorem empty_of {s : ByteArray} (h : s.toList = []) : s = E0 := by
  rw [ByteArray.toList_eq] at h
  cases s with
  | mk d => simp at h; rw [h]
theorem toList_inj {a b : ByteArray} (h : a.toList = b.toList) : a = b := by
  rw [ByteArray.toList_eq, ByteArray.toList_eq] at h
  cases a with
  | mk x => cases b with
    | mk y => simp at h; rw [h]
theorem btrans {a b c : World} (h : Below a.heap.size a b) (k : Below b.heap.size b c) : Below a.heap.size a c := h.trans (k.mono h.size)
theorem cell_keep {w w' : World} {a : Addr} {v : Value} (h : w.cell? a = some v) (k : Below w.heap.size w w') : w'.cell? a = some v := (k.cell (block_lt_of_cell h)).trans h
theorem ret_bool {a b : Bool} (h : a = b) : Ending.returned (.bool a) = .returned (.bool b) := by rw [h]

def LiesC (w : World) (v : Value) (cs : List Value) : Prop :=
  ∃ ao cap, v = .slice ao cs.length cap ∧ ((ao = none → cap = 0) ∧ cs.length ≤ cap) ∧ ∀ i (h : i < cs.length), ∃ b off, ao = some ⟨b, off, none⟩ ∧ w.cell? ⟨b, off + i, none⟩ = some cs[i]
theorem LiesC.keep {w w' : World} {v : Value} {cs : List Value} (h : LiesC w v cs) (k : Below w.heap.size w w') : LiesC w' v cs := by
  obtain ⟨ao, cap, rfl, hn, hc⟩ := h
  refine ⟨ao, cap, rfl, hn, fun i hi => ?_⟩
  obtain ⟨b, off, h0, h1⟩ := hc i hi
  exact ⟨b, off, h0, cell_keep h1 k⟩
def LiesS (w : World) (v : Value) (L : List ByteArray) : Prop :=
  ∃ ao cap, v = .slice ao L.length cap ∧ ((ao = none → cap = 0) ∧ L.length ≤ cap) ∧ ∀ i (h : i < L.length), ∃ b off, ao = some ⟨b, off, none⟩ ∧ w.cell? ⟨b, off + i, none⟩ = some (.string L[i])
theorem LiesS.keep {w w' : World} {v : Value} {L : List ByteArray} (h : LiesS w v L) (k : Below w.heap.size w w') : LiesS w' v L := by
  obtain ⟨ao, cap, rfl, hn, hc⟩ := h
  refine ⟨ao, cap, rfl, hn, fun i hi => ?_⟩
  obtain ⟨b, off, h0, h1⟩ := hc i hi
  exact ⟨b, off, h0, cell_keep h1 k⟩
def LiesN (w : World) (v : Value) (L : List Int) : Prop :=
  ∃ ao cap, v = .slice ao L.length cap ∧ ((ao = none → cap = 0) ∧ L.length ≤ cap) ∧ ∀ i (h : i < L.length), ∃ b off, ao = some ⟨b, off, none⟩ ∧ w.cell? ⟨b, off + i, none⟩ = some (.int .i64 L[i])
theorem LiesN.keep {w w' : World} {v : Value} {L : List Int} (h : LiesN w v L) (k : Below w.heap.size w w') : LiesN w' v L := by
  obtain ⟨ao, cap, rfl, hn, hc⟩ := h
  refine ⟨ao, cap, rfl, hn, fun i hi => ?_⟩
  obtain ⟨b, off, h0, h1⟩ := hc i hi
  exact ⟨b, off, h0, cell_keep h1 k⟩
def LiesP (w : World) (v : Value) (E : List (ByteArray × ByteArray)) : Prop :=
  ∃ ao cap, v = .slice ao E.length cap ∧ ((ao = none → cap = 0) ∧ E.length ≤ cap) ∧ ∀ i (h : i < E.length), ∃ b off, ao = some ⟨b, off, none⟩ ∧ w.cell? ⟨b, off + i * 2, none⟩ = some (.string E[i].1) ∧ w.cell? ⟨b, off + i * 2 + 1, none⟩ = some (.string E[i].2)
theorem LiesP.keep {w w' : World} {v : Value} {E : List (ByteArray × ByteArray)} (h : LiesP w v E) (k : Below w.heap.size w w') : LiesP w' v E := by
  obtain ⟨ao, cap, rfl, hn, hc⟩ := h
  refine ⟨ao, cap, rfl, hn, fun i hi => ?_⟩
  obtain ⟨b, off, h0, h1, h2⟩ := hc i hi
  exact ⟨b, off, h0, cell_keep h1 k, cell_keep h2 k⟩
theorem LiesS.take {w : World} {b off k : Nat} {L : List ByteArray} {cap cap' : Nat} (h : LiesS w (.slice (some ⟨b, off, none⟩) L.length cap) L) (hk : k ≤ L.length) (hk' : k ≤ cap') : LiesS w (.slice (some ⟨b, off, none⟩) k cap') (L.take k) := by
  obtain ⟨ao, c, he, _, hc⟩ := h
  simp only [Value.slice.injEq] at he
  obtain ⟨rfl, _, rfl⟩ := he
  refine ⟨some ⟨b, off, none⟩, cap', by simp [Nat.min_eq_left hk], ⟨nofun, by simp; omega⟩, fun i hi => ?_⟩
  simp at hi
  obtain ⟨b', off', e, hcell⟩ := hc i (by omega)
  simp only [Option.some.injEq, Addr.mk.injEq] at e
  obtain ⟨rfl, rfl, _⟩ := e
  exact ⟨b, off, rfl, by simpa using hcell⟩

theorem LiesP.take {w : World} {b off k : Nat} {E : List (ByteArray × ByteArray)} {cap cap' : Nat} (h : LiesP w (.slice (some ⟨b, off, none⟩) E.length cap) E) (hk : k ≤ E.length) (hk' : k ≤ cap') : LiesP w (.slice (some ⟨b, off, none⟩) k cap') (E.take k) := by
  obtain ⟨ao, c, he, _, hc⟩ := h
  simp only [Value.slice.injEq] at he
  obtain ⟨rfl, _, rfl⟩ := he
  refine ⟨some ⟨b, off, none⟩, cap', by simp [Nat.min_eq_left hk], ⟨nofun, by simp; omega⟩, fun i hi => ?_⟩
  simp at hi
  obtain ⟨b', off', e, h1, h2⟩ := hc i (by omega)
  simp only [Option.some.injEq, Addr.mk.injEq] at e
  obtain ⟨rfl, rfl, _⟩ := e
  exact ⟨b, off, rfl, by simpa using h1, by simpa using h2⟩

def Own1 (w : World) (base : Nat) (e : TypeId) (v : Value) (xs : List Value) : Prop := w.ownsRow base e 1 v xs.length xs
theorem grownBy_of_below {w w' : World} (k : Below w.heap.size w w') : w.grownBy w' none := ⟨k.os, k.tape, k.output, k.size, fun i hi _ => k.block i hi⟩
theorem Own1.nil (w : World) (base : Nat) (e : TypeId) : Own1 w base e (.slice none 0 0) [] := World.ownsRow_nil _ _ _ _
theorem Own1.alloc {w : World} {base : Nat} {e : TypeId} {v : Value} {xs : List Value} (h : Own1 w base e v xs) (o : Obj) : Own1 (w.alloc o) base e v xs := World.ownsRow.alloc h o
theorem Own1.keep {w w' : World} {base : Nat} {e : TypeId} {v : Value} {xs : List Value} (h : Own1 w base e v xs) (k : Below w.heap.size w w') : Own1 w' base e v xs :=
  World.ownsRow.kept h (grownBy_of_below k) (by cases hv : v.ownBlock <;> simp)
theorem Own1.drew {w : World} {base : Nat} {e : TypeId} {v : Value} {xs : List Value} (h : Own1 w base e v xs) : Own1 w.drew base e v xs := h
theorem Own1.mono {w : World} {base base' : Nat} {e : TypeId} {v : Value} {xs : List Value} (h : Own1 w base e v xs) (hb : base' ≤ base) : Own1 w base' e v xs := by
  refine ⟨h.1, ?_⟩
  rcases h.2 with h | ⟨g, cap, cur, h1, h2, h3⟩
  · exact .inl h
  · exact .inr ⟨g, cap, cur, h1, Nat.le_trans hb h2, h3⟩
theorem Own1.shape {w : World} {base : Nat} {e : TypeId} {v : Value} {xs : List Value} (h : Own1 w base e v xs) : ∃ ao cap, v = .slice ao xs.length cap := by
  rcases h.2 with ⟨rfl, h0⟩ | ⟨g, cap, cur, rfl, _⟩
  · exact ⟨none, 0, by rw [h0]⟩
  · exact ⟨_, cap, rfl⟩
theorem Own1.shapeN {w : World} {base n : Nat} {e : TypeId} {v : Value} {xs : List Value} (h : Own1 w base e v xs) (hn : xs.length = n) : ∃ ao cap, v = .slice ao n cap := by
  subst hn; exact h.shape
theorem Own1.lies {w : World} {base : Nat} {e : TypeId} {v : Value} {xs : List Value} (h : Own1 w base e v xs) : LiesC w v xs := by
  rcases h.2 with ⟨rfl, h0⟩ | ⟨g, cap, cur, rfl, h3⟩
  · exact ⟨none, 0, by rw [h0], ⟨fun _ => rfl, by omega⟩, fun i hi => by omega⟩
  · refine ⟨_, cap, rfl, ⟨fun h => by simp at h, h3.2.2.1⟩, fun i hi => ⟨g, 0, rfl, ?_⟩⟩
    have := World.ownsRow.cells h (g := g) rfl i xs[i] (List.getElem?_eq_getElem hi)
    rwa [show (⟨g, 0, none⟩ : Addr).add i = ⟨g, 0 + i, none⟩ by unfold Addr.add; split <;> simp_all] at this
theorem LiesS.cells {w : World} {v : Value} {L : List ByteArray} (h : LiesS w v L) : LiesC w v (L.map .string) := by
  obtain ⟨ao, cap, h0, hn, hc⟩ := h
  refine ⟨ao, cap, by simpa using h0, by simpa using hn, fun i hi => ?_⟩
  obtain ⟨b, off, h1, h2⟩ := hc i (by simpa using hi)
  exact ⟨b, off, h1, by simpa using h2⟩

theorem Own1.lit (w : World) {base H : Nat} {e : TypeId} {C : Array Value} (ys : List Value) (hC : C.toList = ys) (hb : base ≤ w.heap.size) (hH : w.heap.size = H) (hlen : ys.length ≤ 1000000000) :
    Own1 (w.alloc (.cells C e)) base e (.slice (some ⟨H, 0, none⟩) ys.length ys.length) ys := by
  subst hH hC
  rw [Array.length_toList] at hlen ⊢
  have := World.ownsRow_lit (base := base) (e := e) (size := 1) w C C.size hb (by unfold maxLen; omega) (by rw [Nat.mul_one])
  unfold Own1
  rw [Array.length_toList]
  exact this
theorem Own1.block {w : World} {base : Nat} {e : TypeId} {v : Value} {xs : List Value} (h : Own1 w base e v xs) {g : Nat} (hg : v.ownBlock = some g) : base ≤ g ∧ ∃ cur, w.heap[g]? = some (.cells cur e (0, 0)) := by
  rcases h.2 with ⟨rfl, _⟩ | ⟨g', cap, cur, rfl, hb, hh, _⟩
  · simp [Value.ownBlock] at hg
  · simp [Value.ownBlock] at hg
    subst hg
    exact ⟨hb, cur, hh⟩
theorem Own1.grown {w w' : World} {base base' : Nat} {e e' : TypeId} {v u : Value} {xs ys : List Value} (h : Own1 w base e v xs) (hu : Own1 w base' e' u ys) (hne : e ≠ e') (hg : w.grownBy w' u.ownBlock) : Own1 w' base e v xs := by
  refine World.ownsRow.kept h hg ?_
  cases hv : v.ownBlock with
  | none => exact .inl rfl
  | some g =>
    refine .inr fun hc => hne ?_
    obtain ⟨_, cur, h1⟩ := h.block hv
    obtain ⟨_, cur', h2⟩ := hu.block hc.symm
    rw [h1] at h2
    simp at h2
    exact h2.2
theorem Own1.cell {w : World} {base : Nat} {e : TypeId} {ao : Option Addr} {n cap : Nat} {xs : List Value} (h : Own1 w base e (.slice ao n cap) xs) {i : Nat} (hi : i < xs.length) :
    ∃ g, ao = some ⟨g, 0, none⟩ ∧ base ≤ g ∧ w.cell? ⟨g, i, none⟩ = some xs[i] ∧ w.frozen? ⟨g, i, none⟩ = false := by
  rcases h.2 with ⟨_, h0⟩ | ⟨g, cap', cur, hv, hb, hh, hrest⟩
  · omega
  · simp only [Value.slice.injEq] at hv
    obtain ⟨rfl, rfl, rfl⟩ := hv
    refine ⟨g, rfl, hb, ?_, ?_⟩
    · rw [World.ownsRow.cellAt h i (by omega)]
      exact List.getElem?_eq_getElem hi
    · exact World.ownsRow.frozenAt h i
theorem Own1.cellAt {w : World} {base g n cap : Nat} {e : TypeId} {xs : List Value} (h : Own1 w base e (.slice (some ⟨g, 0, none⟩) n cap) xs) {i : Nat} (hi : i < xs.length) : w.cell? ⟨g, i, none⟩ = some xs[i] ∧ w.frozen? ⟨g, i, none⟩ = false := by
  obtain ⟨g', hg, _, h1, h2⟩ := h.cell hi
  simp only [Option.some.injEq, Addr.mk.injEq] at hg
  obtain ⟨rfl, _⟩ := hg
  exact ⟨h1, h2⟩
end Go.Proofs.YtckidlbmoalomaaGreatDoor


namespace Go.Proofs.YtckidlbmoalomaaGreatDoor
open Go.RowKit Go.Sort

theorem beq_nat (n k : Nat) : ((n : Int) == (k : Int)) = (n == k) := by
  rw [Bool.eq_iff_iff, beq_iff_eq, beq_iff_eq]; omega
theorem le_nat (n k : Nat) : decide ((n : Int) ≤ (k : Int)) = decide (n ≤ k) := by
  rw [decide_eq_decide]; omega
end Go.Proofs.YtckidlbmoalomaaGreatDoor


namespace Go.Proofs.YtckidlbmoalomaaGreatDoor
open Go.RowKit Go.Sort

theorem byte_at (s : ByteArray) {k : Nat} (h : k < s.size) : s.data.toList.drop k = s[k] :: s.data.toList.drop (k + 1) := by
  have h' : k < s.data.toList.length := by simpa using h
  rw [List.drop_eq_getElem_cons h']
  rfl
theorem byte_take (s : ByteArray) {k : Nat} (h : k < s.size) : s.data.toList.take (k + 1) = s.data.toList.take k ++ [s[k]] := by
  have h' : k < s.data.toList.length := by simpa using h
  rw [List.take_succ_eq_append_getElem h']
  rfl
end Go.Proofs.YtckidlbmoalomaaGreatDoor


namespace Go.Proofs.YtckidlbmoalomaaGreatDoor
open Go.RowKit Go.Sort

def nameB (c : UInt8) : Bool := digitB c || letterB c
def noEndB (c : UInt8) : Bool := c.toNat != 10

theorem digit_any (w : World) (c : UInt8) : Calls Tryz.prog 80 #[.int .u8 (c.toNat : Int)] w fun e w' => e = .returned (.bool (digitB c)) ∧ w' = w := by
  have q1 : decide ((48 : Int) ≤ (c.toNat : Int)) = decide (48 ≤ c.toNat) := le_nat 48 _
  have q2 : decide ((c.toNat : Int) ≤ 57) = decide (c.toNat ≤ 57) := le_nat _ 57
  have HX : Hid (digitB c = (decide (48 ≤ c.toNat) && decide (c.toNat ≤ 57))) := rfl
  generalize decide (48 ≤ c.toNat) = b1 at q1 HX
  generalize decide (c.toNat ≤ 57) = b2 at q2 HX
  cases b1 <;> cases b2 <;> (
    go_enter Tryz.func80, Tryz.ntmps80
    go_wp2_with fail
    go_ret
    exact ⟨ret_bool (by rw [HX.out]; rfl), rfl⟩)
theorem may_any (w : World) (c : UInt8) : Calls Tryz.prog 100 #[.int .u8 (c.toNat : Int)] w fun e w' => e = .returned (.bool (mayB c)) ∧ w' = w := by
  have q1 : decide ((32 : Int) ≤ (c.toNat : Int)) = decide (32 ≤ c.toNat) := le_nat 32 _
  have q2 : ((c.toNat : Int) == 10) = (c.toNat == 10) := beq_nat _ 10
  have HX : Hid (mayB c = (decide (32 ≤ c.toNat) || c.toNat == 10)) := rfl
  generalize decide (32 ≤ c.toNat) = b1 at q1 HX
  generalize (c.toNat == 10) = b2 at q2 HX
  cases b1 <;> cases b2 <;> (
    go_enter Tryz.func100, Tryz.ntmps100
    go_wp2_with fail
    go_ret
    exact ⟨ret_bool (by rw [HX.out]; rfl), rfl⟩)
theorem blank_any (w : World) (c : UInt8) : Calls Tryz.prog 43 #[.int .u8 (c.toNat : Int)] w fun e w' => e = .returned (.bool (blankB c)) ∧ w' = w := by
  have q1 : ((c.toNat : Int) == 32) = (c.toNat == 32) := beq_nat _ 32
  have q2 : ((c.toNat : Int) == 9) = (c.toNat == 9) := beq_nat _ 9
  have q3 : ((c.toNat : Int) == 10) = (c.toNat == 10) := beq_nat _ 10
  have q4 : ((c.toNat : Int) == 13) = (c.toNat == 13) := beq_nat _ 13
  have HX : Hid (blankB c = (c.toNat == 32 || c.toNat == 9 || c.toNat == 10 || c.toNat == 13)) := rfl
  generalize (c.toNat == 32) = b1 at q1 HX
  generalize (c.toNat == 9) = b2 at q2 HX
  generalize (c.toNat == 10) = b3 at q3 HX
  generalize (c.toNat == 13) = b4 at q4 HX
  cases b1 <;> cases b2 <;> cases b3 <;> cases b4 <;> (
    go_enter Tryz.func43, Tryz.ntmps43
    go_wp2_with fail
    go_ret
    exact ⟨ret_bool (by rw [HX.out]; rfl), rfl⟩)
theorem letter_any (w : World) (c : UInt8) : Calls Tryz.prog 78 #[.int .u8 (c.toNat : Int)] w fun e w' => e = .returned (.bool (letterB c)) ∧ w' = w := by
  have q1 : decide ((97 : Int) ≤ (c.toNat : Int)) = decide (97 ≤ c.toNat) := le_nat 97 _
  have q2 : decide ((c.toNat : Int) ≤ 122) = decide (c.toNat ≤ 122) := le_nat _ 122
  have q3 : decide ((65 : Int) ≤ (c.toNat : Int)) = decide (65 ≤ c.toNat) := le_nat 65 _
  have q4 : decide ((c.toNat : Int) ≤ 90) = decide (c.toNat ≤ 90) := le_nat _ 90
  have q5 : ((c.toNat : Int) == 95) = (c.toNat == 95) := beq_nat _ 95
  have HX : Hid (letterB c = ((decide (97 ≤ c.toNat) && decide (c.toNat ≤ 122)) || (decide (65 ≤ c.toNat) && decide (c.toNat ≤ 90)) || c.toNat == 95)) := rfl
  generalize decide (97 ≤ c.toNat) = b1 at q1 HX
  generalize decide (c.toNat ≤ 122) = b2 at q2 HX
  generalize decide (65 ≤ c.toNat) = b3 at q3 HX
  generalize decide (c.toNat ≤ 90) = b4 at q4 HX
  generalize (c.toNat == 95) = b5 at q5 HX
  cases b1 <;> cases b2 <;> cases b3 <;> cases b4 <;> cases b5 <;> (
    go_enter Tryz.func78, Tryz.ntmps78
    go_wp2_with fail
    go_ret
    exact ⟨ret_bool (by rw [HX.out]; rfl), rfl⟩)
theorem noEnd_any (w : World) (c : UInt8) : Calls Tryz.prog 45 #[.int .u8 (c.toNat : Int)] w fun e w' => e = .returned (.bool (noEndB c)) ∧ w' = w := by
  have HX : Hid (noEndB c = ((c.toNat : Int) != 10)) := by
    show noEndB c = _
    unfold noEndB
    rw [Bool.eq_iff_iff, bne_iff_ne, bne_iff_ne]; omega
  go_enter Tryz.func45, Tryz.ntmps45
  go_wp2_with fail
  go_ret
  exact ⟨ret_bool HX.out.symm, rfl⟩
theorem name_any (w : World) (c : UInt8) : Calls Tryz.prog 97 #[.int .u8 (c.toNat : Int)] w fun e w' => e = .returned (.bool (nameB c)) ∧ w' = w := by
  have a1 := letter_any w c
  have a2 := digit_any w c
  have HX : Hid (nameB c = (letterB c || digitB c)) := Bool.or_comm _ _
  generalize letterB c = b1 at a1 HX
  generalize digitB c = b2 at a2 HX
  cases b1
  · go_enter Tryz.func97, Tryz.ntmps97
    go_wp2_with fail
    refine a1.mono ?_
    rintro e w1 ⟨rfl, hw1⟩
    subst w1
    go_wp2_with fail
    refine a2.mono ?_
    rintro e w1 ⟨rfl, hw1⟩
    subst w1
    go_wp2_with fail
    go_ret
    exact ⟨ret_bool (by rw [HX.out]; rfl), rfl⟩
  · go_enter Tryz.func97, Tryz.ntmps97
    go_wp2_with fail
    refine a1.mono ?_
    rintro e w1 ⟨rfl, hw1⟩
    subst w1
    go_wp2_with fail
    go_ret
    exact ⟨ret_bool (by rw [HX.out]; rfl), rfl⟩

end Go.Proofs.YtckidlbmoalomaaGreatDoor
