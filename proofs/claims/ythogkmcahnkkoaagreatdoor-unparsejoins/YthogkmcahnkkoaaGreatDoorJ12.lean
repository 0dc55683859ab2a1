/- Tools of all layers: how contracts are joined, slices of texts, of pairs of texts and of numbers in memory, and slices of the calls' own whose elements are one cell each. Contracts of the document's letter, digit, blank, Marks, Words and Word. Contract of the document's Line. Contracts of the program's tests of bytes, and of span with each of them. Contract of the program's span: with a test that hangs on the byte alone, and with one that keeps something. -/
import Derived.Test.YthogkmcahnkkoaaGreatDoorChecked
import Derived.WalkKit
import Derived.WalkLawsBesides
import Derived.Outline
import Derived.Lib.QuietBelow
import Derived.BigQuiet
import Derived.OwnWalk
import Derived.Laws.AppendOwnNone
import Derived.Laws.OwnMore
import Derived.Laws.CopyOwn
import Derived.Deep.RegionLaw
import Derived.Test.YthogkmcahnkkoaaGreatDoorJ05
namespace Go.Proofs.YthogkmcahnkkoaaGreatDoor
open Go.RowKit Go.Sort
abbrev E0 : ByteArray := ⟨#[]⟩
theorem empty_of {s : ByteArray} (h : s.toList = []) : s = E0 := by
 rw [ByteArray.toList_eq] at h
 cases s with
 | mk d => simp at h; rw [h]
theorem toList_inj {a b : ByteArray} (h : a.toList = b.toList) : a = b := by
 rw [ByteArray.toList_eq, ByteArray.toList_eq] at h
 cases a with
 | mk x => cases b with
  | mk y => simp at h; rw [h]
theorem lC {a b c : World} (h : Below a.heap.size a b) (k : Below b.heap.size b c) : Below a.heap.size a c := h.trans (k.mono h.size)
theorem o9 {w w' : World} {a : Addr} {v : Value} (h : w.cell? a = some v) (k : Below w.heap.size w w') : w'.cell? a = some v := (k.cell (block_lt_of_cell h)).trans h
theorem rV {a b : Bool} (h : a = b) : Ending.returned (.bool a) = .returned (.bool b) := by rw [h]
def Ls (w : World) (v : Value) (cs : List Value) : Prop :=
 ∃ ao cap, v = .slice ao cs.length cap ∧ ((ao = none → cap = 0) ∧ cs.length ≤ cap) ∧ ∀ i (h : i < cs.length), ∃ b off, ao = some ⟨b, off, none⟩ ∧ w.cell? ⟨b, off + i, none⟩ = some cs[i]
theorem Ls.keep {w w' : World} {v : Value} {cs : List Value} (h : Ls w v cs) (k : Below w.heap.size w w') : Ls w' v cs := by
 obtain ⟨ao, cap, rfl, hn, hc⟩ := h
 refine ⟨ao, cap, rfl, hn, fun i hi => ?_⟩
 obtain ⟨b, off, h0, h1⟩ := hc i hi
 exact ⟨b, off, h0, o9 h1 k⟩
def Dn (w : World) (v : Value) (L : List ByteArray) : Prop :=
 ∃ ao cap, v = .slice ao L.length cap ∧ ((ao = none → cap = 0) ∧ L.length ≤ cap) ∧ ∀ i (h : i < L.length), ∃ b off, ao = some ⟨b, off, none⟩ ∧ w.cell? ⟨b, off + i, none⟩ = some (.string L[i])
theorem Dn.keep {w w' : World} {v : Value} {L : List ByteArray} (h : Dn w v L) (k : Below w.heap.size w w') : Dn w' v L := by
 obtain ⟨ao, cap, rfl, hn, hc⟩ := h
 refine ⟨ao, cap, rfl, hn, fun i hi => ?_⟩
 obtain ⟨b, off, h0, h1⟩ := hc i hi
 exact ⟨b, off, h0, o9 h1 k⟩
def VE (w : World) (v : Value) (L : List Int) : Prop :=
 ∃ ao cap, v = .slice ao L.length cap ∧ ((ao = none → cap = 0) ∧ L.length ≤ cap) ∧ ∀ i (h : i < L.length), ∃ b off, ao = some ⟨b, off, none⟩ ∧ w.cell? ⟨b, off + i, none⟩ = some (.int .i64 L[i])
theorem VE.keep {w w' : World} {v : Value} {L : List Int} (h : VE w v L) (k : Below w.heap.size w w') : VE w' v L := by
 obtain ⟨ao, cap, rfl, hn, hc⟩ := h
 refine ⟨ao, cap, rfl, hn, fun i hi => ?_⟩
 obtain ⟨b, off, h0, h1⟩ := hc i hi
 exact ⟨b, off, h0, o9 h1 k⟩
def Hq (w : World) (v : Value) (E : List (ByteArray × ByteArray)) : Prop :=
 ∃ ao cap, v = .slice ao E.length cap ∧ ((ao = none → cap = 0) ∧ E.length ≤ cap) ∧ ∀ i (h : i < E.length), ∃ b off, ao = some ⟨b, off, none⟩ ∧ w.cell? ⟨b, off + i * 2, none⟩ = some (.string E[i].1) ∧ w.cell? ⟨b, off + i * 2 + 1, none⟩ = some (.string E[i].2)
theorem Hq.keep {w w' : World} {v : Value} {E : List (ByteArray × ByteArray)} (h : Hq w v E) (k : Below w.heap.size w w') : Hq w' v E := by
 obtain ⟨ao, cap, rfl, hn, hc⟩ := h
 refine ⟨ao, cap, rfl, hn, fun i hi => ?_⟩
 obtain ⟨b, off, h0, h1, h2⟩ := hc i hi
 exact ⟨b, off, h0, o9 h1 k, o9 h2 k⟩
theorem Dn.take {w : World} {b off k : Nat} {L : List ByteArray} {cap cap' : Nat} (h : Dn w (.slice (some ⟨b, off, none⟩) L.length cap) L) (hk : k ≤ L.length) (hk' : k ≤ cap') : Dn w (.slice (some ⟨b, off, none⟩) k cap') (L.take k) := by
 obtain ⟨ao, c, he, _, hc⟩ := h
 simp only [Value.slice.injEq] at he
 obtain ⟨rfl, _, rfl⟩ := he
 refine ⟨some ⟨b, off, none⟩, cap', by simp [Nat.min_eq_left hk], ⟨nofun, by simp; omega⟩, fun i hi => ?_⟩
 simp at hi
 obtain ⟨b', off', e, hcell⟩ := hc i (by omega)
 simp only [Option.some.injEq, Addr.mk.injEq] at e
 obtain ⟨rfl, rfl, _⟩ := e
 exact ⟨b, off, rfl, by simpa using hcell⟩
theorem Hq.take {w : World} {b off k : Nat} {E : List (ByteArray × ByteArray)} {cap cap' : Nat} (h : Hq w (.slice (some ⟨b, off, none⟩) E.length cap) E) (hk : k ≤ E.length) (hk' : k ≤ cap') : Hq w (.slice (some ⟨b, off, none⟩) k cap') (E.take k) := by
 obtain ⟨ao, c, he, _, hc⟩ := h
 simp only [Value.slice.injEq] at he
 obtain ⟨rfl, _, rfl⟩ := he
 refine ⟨some ⟨b, off, none⟩, cap', by simp [Nat.min_eq_left hk], ⟨nofun, by simp; omega⟩, fun i hi => ?_⟩
 simp at hi
 obtain ⟨b', off', e, h1, h2⟩ := hc i (by omega)
 simp only [Option.some.injEq, Addr.mk.injEq] at e
 obtain ⟨rfl, rfl, _⟩ := e
 exact ⟨b, off, rfl, by simpa using h1, by simpa using h2⟩
def l7 (w : World) (base : Nat) (e : TypeId) (v : Value) (xs : List Value) : Prop := w.ownsRow base e 1 v xs.length xs
theorem uX {w w' : World} (k : Below w.heap.size w w') : w.grownBy w' none := ⟨k.os, k.tape, k.output, k.size, fun i hi _ => k.block i hi⟩
theorem l7.nil (w : World) (base : Nat) (e : TypeId) : l7 w base e (.slice none 0 0) [] := World.ownsRow_nil _ _ _ _
theorem l7.alloc {w : World} {base : Nat} {e : TypeId} {v : Value} {xs : List Value} (h : l7 w base e v xs) (o : Obj) : l7 (w.alloc o) base e v xs := World.ownsRow.alloc h o
theorem l7.keep {w w' : World} {base : Nat} {e : TypeId} {v : Value} {xs : List Value} (h : l7 w base e v xs) (k : Below w.heap.size w w') : l7 w' base e v xs :=
 World.ownsRow.kept h (uX k) (by cases hv : v.ownBlock <;> simp)
theorem l7.drew {w : World} {base : Nat} {e : TypeId} {v : Value} {xs : List Value} (h : l7 w base e v xs) : l7 w.drew base e v xs := h
theorem l7.mono {w : World} {base base' : Nat} {e : TypeId} {v : Value} {xs : List Value} (h : l7 w base e v xs) (hb : base' ≤ base) : l7 w base' e v xs := by
 refine ⟨h.1, ?_⟩
 rcases h.2 with h | ⟨g, cap, cur, h1, h2, h3⟩
 ·exact .inl h
 ·exact .inr ⟨g, cap, cur, h1, Nat.le_trans hb h2, h3⟩
theorem l7.shape {w : World} {base : Nat} {e : TypeId} {v : Value} {xs : List Value} (h : l7 w base e v xs) : ∃ ao cap, v = .slice ao xs.length cap := by
 rcases h.2 with ⟨rfl, h0⟩ | ⟨g, cap, cur, rfl, _⟩
 ·exact ⟨none, 0, by rw [h0]⟩
 ·exact ⟨_, cap, rfl⟩
theorem l7.shapeN {w : World} {base n : Nat} {e : TypeId} {v : Value} {xs : List Value} (h : l7 w base e v xs) (hn : xs.length = n) : ∃ ao cap, v = .slice ao n cap := by
 subst hn; exact h.shape
theorem l7.lies {w : World} {base : Nat} {e : TypeId} {v : Value} {xs : List Value} (h : l7 w base e v xs) : Ls w v xs := by
 rcases h.2 with ⟨rfl, h0⟩ | ⟨g, cap, cur, rfl, h3⟩
 ·exact ⟨none, 0, by rw [h0], ⟨fun _ => rfl, by omega⟩, fun i hi => by omega⟩
 ·refine ⟨_, cap, rfl, ⟨fun h => by simp at h, h3.2.2.1⟩, fun i hi => ⟨g, 0, rfl, ?_⟩⟩
  have := World.ownsRow.cells h (g := g) rfl i xs[i] (List.getElem?_eq_getElem hi)
  rwa [show (⟨g, 0, none⟩ : Addr).add i = ⟨g, 0 + i, none⟩ by unfold Addr.add; split <;> simp_all] at this
theorem Dn.cells {w : World} {v : Value} {L : List ByteArray} (h : Dn w v L) : Ls w v (L.map .string) := by
 obtain ⟨ao, cap, h0, hn, hc⟩ := h
 refine ⟨ao, cap, by simpa using h0, by simpa using hn, fun i hi => ?_⟩
 obtain ⟨b, off, h1, h2⟩ := hc i (by simpa using hi)
 exact ⟨b, off, h1, by simpa using h2⟩
theorem l7.lit (w : World) {base H : Nat} {e : TypeId} {C : Array Value} (ys : List Value) (hC : C.toList = ys) (hb : base ≤ w.heap.size) (hH : w.heap.size = H) (hlen : ys.length ≤ 1000000000) :
  l7 (w.alloc (.cells C e)) base e (.slice (some ⟨H, 0, none⟩) ys.length ys.length) ys := by
 subst hH hC
 rw [Array.length_toList] at hlen ⊢
 have := World.ownsRow_lit (base := base) (e := e) (size := 1) w C C.size hb (by unfold maxLen; omega) (by rw [Nat.mul_one])
 unfold l7
 rw [Array.length_toList]
 exact this
theorem l7.block {w : World} {base : Nat} {e : TypeId} {v : Value} {xs : List Value} (h : l7 w base e v xs) {g : Nat} (hg : v.ownBlock = some g) : base ≤ g ∧ ∃ cur, w.heap[g]? = some (.cells cur e (0, 0)) := by
 rcases h.2 with ⟨rfl, _⟩ | ⟨g', cap, cur, rfl, hb, hh, _⟩
 ·simp [Value.ownBlock] at hg
 ·simp [Value.ownBlock] at hg
  subst hg
  exact ⟨hb, cur, hh⟩
theorem l7.grown {w w' : World} {base base' : Nat} {e e' : TypeId} {v u : Value} {xs ys : List Value} (h : l7 w base e v xs) (hu : l7 w base' e' u ys) (hne : e ≠ e') (hg : w.grownBy w' u.ownBlock) : l7 w' base e v xs := by
 refine World.ownsRow.kept h hg ?_
 cases hv : v.ownBlock with
 | none => exact .inl rfl
 | some g =>
  refine .inr fun hc => hne ?_
  obtain ⟨_, cur, h1⟩ := h.block hv
  obtain ⟨_, cur', h2⟩ := hu.block hc.symm
  rw [h1] at h2
  simp at h2
  exact h2.2
theorem l7.cell {w : World} {base : Nat} {e : TypeId} {ao : Option Addr} {n cap : Nat} {xs : List Value} (h : l7 w base e (.slice ao n cap) xs) {i : Nat} (hi : i < xs.length) :
  ∃ g, ao = some ⟨g, 0, none⟩ ∧ base ≤ g ∧ w.cell? ⟨g, i, none⟩ = some xs[i] ∧ w.frozen? ⟨g, i, none⟩ = false := by
 rcases h.2 with ⟨_, h0⟩ | ⟨g, cap', cur, hv, hb, hh, hrest⟩
 ·omega
 ·simp only [Value.slice.injEq] at hv
  obtain ⟨rfl, rfl, rfl⟩ := hv
  refine ⟨g, rfl, hb, ?_, ?_⟩
  ·rw [World.ownsRow.cellAt h i (by omega)]
   exact List.getElem?_eq_getElem hi
  ·exact World.ownsRow.frozenAt h i
theorem l7.cellAt {w : World} {base g n cap : Nat} {e : TypeId} {xs : List Value} (h : l7 w base e (.slice (some ⟨g, 0, none⟩) n cap) xs) {i : Nat} (hi : i < xs.length) : w.cell? ⟨g, i, none⟩ = some xs[i] ∧ w.frozen? ⟨g, i, none⟩ = false := by
 obtain ⟨g', hg, _, h1, h2⟩ := h.cell hi
 simp only [Option.some.injEq, Addr.mk.injEq] at hg
 obtain ⟨rfl, _⟩ := hg
 exact ⟨h1, h2⟩
theorem xZ (n k : Nat) : ((n : Int) == (k : Int)) = (n == k) := by
 rw [Bool.eq_iff_iff, beq_iff_eq, beq_iff_eq]; omega
theorem zk (n k : Nat) : decide ((n : Int) ≤ (k : Int)) = decide (n ≤ k) := by
 rw [decide_eq_decide]; omega
theorem byte_at (s : ByteArray) {k : Nat} (h : k < s.size) : s.data.toList.drop k = s[k] :: s.data.toList.drop (k + 1) := by
 have h' : k < s.data.toList.length := by simpa using h
 rw [List.drop_eq_getElem_cons h']
 rfl
theorem RF (s : ByteArray) {k : Nat} (h : k < s.size) : s.data.toList.take (k + 1) = s.data.toList.take k ++ [s[k]] := by
 have h' : k < s.data.toList.length := by simpa using h
 rw [List.take_succ_eq_append_getElem h']
 rfl
def nameB (c : UInt8) : Bool := dM c || pI c
def mY (c : UInt8) : Bool := c.toNat != 10
theorem BR (w : World) (c : UInt8) : Calls Tryz.prog 120 #[.int .u8 (c.toNat : Int)] w fun e w' => e = .returned (.bool (dM c)) ∧ w' = w := by
 have q1 : decide ((48 : Int) ≤ (c.toNat : Int)) = decide (48 ≤ c.toNat) := zk 48 _
 have q2 : decide ((c.toNat : Int) ≤ 57) = decide (c.toNat ≤ 57) := zk _ 57
 have HX : Hid (dM c = (decide (48 ≤ c.toNat) && decide (c.toNat ≤ 57))) := rfl
 generalize decide (48 ≤ c.toNat) = b1 at q1 HX
 generalize decide (c.toNat ≤ 57) = b2 at q2 HX
 cases b1 <;> cases b2 <;> (
  go_enter Tryz.func120, Tryz.ntmps120
  go_wp2_with fail
  go_ret
  exact ⟨rV (by rw [HX.out]; rfl), rfl⟩)
theorem YT (w : World) (c : UInt8) : Calls Tryz.prog 157 #[.int .u8 (c.toNat : Int)] w fun e w' => e = .returned (.bool (EJ c)) ∧ w' = w := by
 have q1 : decide ((32 : Int) ≤ (c.toNat : Int)) = decide (32 ≤ c.toNat) := zk 32 _
 have q2 : ((c.toNat : Int) == 10) = (c.toNat == 10) := xZ _ 10
 have HX : Hid (EJ c = (decide (32 ≤ c.toNat) || c.toNat == 10)) := rfl
 generalize decide (32 ≤ c.toNat) = b1 at q1 HX
 generalize (c.toNat == 10) = b2 at q2 HX
 cases b1 <;> cases b2 <;> (
  go_enter Tryz.func157, Tryz.ntmps157
  go_wp2_with fail
  go_ret
  exact ⟨rV (by rw [HX.out]; rfl), rfl⟩)
theorem RG (w : World) (c : UInt8) : Calls Tryz.prog 80 #[.int .u8 (c.toNat : Int)] w fun e w' => e = .returned (.bool (gy c)) ∧ w' = w := by
 have q1 : ((c.toNat : Int) == 32) = (c.toNat == 32) := xZ _ 32
 have q2 : ((c.toNat : Int) == 9) = (c.toNat == 9) := xZ _ 9
 have q3 : ((c.toNat : Int) == 10) = (c.toNat == 10) := xZ _ 10
 have q4 : ((c.toNat : Int) == 13) = (c.toNat == 13) := xZ _ 13
 have HX : Hid (gy c = (c.toNat == 32 || c.toNat == 9 || c.toNat == 10 || c.toNat == 13)) := rfl
 generalize (c.toNat == 32) = b1 at q1 HX
 generalize (c.toNat == 9) = b2 at q2 HX
 generalize (c.toNat == 10) = b3 at q3 HX
 generalize (c.toNat == 13) = b4 at q4 HX
 cases b1 <;> cases b2 <;> cases b3 <;> cases b4 <;> (
  go_enter Tryz.func80, Tryz.ntmps80
  go_wp2_with fail
  go_ret
  exact ⟨rV (by rw [HX.out]; rfl), rfl⟩)
theorem Fb (w : World) (c : UInt8) : Calls Tryz.prog 118 #[.int .u8 (c.toNat : Int)] w fun e w' => e = .returned (.bool (pI c)) ∧ w' = w := by
 have q1 : decide ((97 : Int) ≤ (c.toNat : Int)) = decide (97 ≤ c.toNat) := zk 97 _
 have q2 : decide ((c.toNat : Int) ≤ 122) = decide (c.toNat ≤ 122) := zk _ 122
 have q3 : decide ((65 : Int) ≤ (c.toNat : Int)) = decide (65 ≤ c.toNat) := zk 65 _
 have q4 : decide ((c.toNat : Int) ≤ 90) = decide (c.toNat ≤ 90) := zk _ 90
 have q5 : ((c.toNat : Int) == 95) = (c.toNat == 95) := xZ _ 95
 have HX : Hid (pI c = ((decide (97 ≤ c.toNat) && decide (c.toNat ≤ 122)) || (decide (65 ≤ c.toNat) && decide (c.toNat ≤ 90)) || c.toNat == 95)) := rfl
 generalize decide (97 ≤ c.toNat) = b1 at q1 HX
 generalize decide (c.toNat ≤ 122) = b2 at q2 HX
 generalize decide (65 ≤ c.toNat) = b3 at q3 HX
 generalize decide (c.toNat ≤ 90) = b4 at q4 HX
 generalize (c.toNat == 95) = b5 at q5 HX
 cases b1 <;> cases b2 <;> cases b3 <;> cases b4 <;> cases b5 <;> (
  go_enter Tryz.func118, Tryz.ntmps118
  go_wp2_with fail
  go_ret
  exact ⟨rV (by rw [HX.out]; rfl), rfl⟩)
theorem RH (w : World) (c : UInt8) : Calls Tryz.prog 82 #[.int .u8 (c.toNat : Int)] w fun e w' => e = .returned (.bool (mY c)) ∧ w' = w := by
 have HX : Hid (mY c = ((c.toNat : Int) != 10)) := by
  show mY c = _
  unfold mY
  rw [Bool.eq_iff_iff, bne_iff_ne, bne_iff_ne]; omega
 go_enter Tryz.func82, Tryz.ntmps82
 go_wp2_with fail
 go_ret
 exact ⟨rV HX.out.symm, rfl⟩
theorem name_any (w : World) (c : UInt8) : Calls Tryz.prog 155 #[.int .u8 (c.toNat : Int)] w fun e w' => e = .returned (.bool (nameB c)) ∧ w' = w := by
 have a1 := Fb w c
 have a2 := BR w c
 have HX : Hid (nameB c = (pI c || dM c)) := Bool.or_comm _ _
 generalize pI c = b1 at a1 HX
 generalize dM c = b2 at a2 HX
 cases b1
 ·go_enter Tryz.func155, Tryz.ntmps155
  go_wp2_with fail
  refine a1.mono ?_
  rintro e w1 ⟨rfl, hw1⟩
  subst w1
  go_wp2_with fail
  refine a2.mono ?_
  rintro e w1 ⟨rfl, hw1⟩
  subst w1
  go_wp2_with fail
  go_ret
  exact ⟨rV (by rw [HX.out]; rfl), rfl⟩
 ·go_enter Tryz.func155, Tryz.ntmps155
  go_wp2_with fail
  refine a1.mono ?_
  rintro e w1 ⟨rfl, hw1⟩
  subst w1
  go_wp2_with fail
  go_ret
  exact ⟨rV (by rw [HX.out]; rfl), rfl⟩
theorem Og {p : UInt8 → Bool} {s : ByteArray} {k : Nat} (hk : k < s.size) (h : runN p s.data.toList = k + runN p (s.data.toList.drop k)) :
  (p s[k] = true → runN p s.data.toList = (k + 1) + runN p (s.data.toList.drop (k + 1))) ∧ (p s[k] = false → runN p s.data.toList = k) := by
 rw [byte_at s hk, runN] at h
 constructor
 ·intro hp; rw [hp] at h; simp at h; omega
 ·intro hp; rw [hp] at h; simpa using h
set_option maxHeartbeats 1000000 in
theorem xE (K : Nat) (p : UInt8 → Bool) (hK : ∀ (a : Array Value) (w : World), (callFunc K a).run Tryz.prog w = .ok (.enter K a) w) (hp : ∀ (w : World) (c : UInt8), Calls Tryz.prog K #[.int .u8 (c.toNat : Int)] w fun e w' => e = .returned (.bool (p c)) ∧ w' = w)
  (w : World) (s : ByteArray) (hs : s.size ≤ 1000000) :
  Calls Tryz.prog 79 #[.string s, .func (.func K) #[] #[]] w fun e w' => e = .returned (.int .i64 (runN p s.data.toList : Int)) ∧ w' = w := by
 go_enter Tryz.func79, Tryz.ntmps79
 go_wp2_with fail
 go_loopw [8] (fun i wr => ∃ k : Nat, k ≤ s.size ∧ i = .int .i64 k ∧ wr = w ∧ runN p s.data.toList = k + runN p (s.data.toList.drop k)) (fun i _ => s.size - (intOf i).toNat)
 case atStart => exact ⟨0, Nat.zero_le _, rfl, rfl, by simp⟩
 case round =>
  obtain ⟨k, hks, rfl, rfl, hrun⟩ := hrel
  by_cases hk : k < s.size
  ·have HSt := Og hk hrun
   have hc := hp wr s[k]
   have i0 : (0 : Int) ≤ (k : Int) := by omega
   have i1 : (k : Int) < (s.size : Int) := by omega
   cases hb : p s[k]
   ·have HR : Hid (runN p s.data.toList = k) := HSt.2 hb
    rw [hb] at hc
    clear HSt hrun hb hp
    go_wp2_with fail
    refine hc.mono ?_
    rintro e w1 ⟨rfl, hw1⟩
    subst w1
    go_wp2_with fail
    go_ret
    exact ⟨by rw [HR.out]; rfl, rfl⟩
   ·have HR : Hid (runN p s.data.toList = (k + 1) + runN p (s.data.toList.drop (k + 1))) := HSt.1 hb
    rw [hb] at hc
    clear HSt hrun hb hp
    go_wp2_with fail
    refine hc.mono ?_
    rintro e w1 ⟨rfl, hw1⟩
    subst w1
    go_wp2_with fail
    go_roundw
    case rel => exact ⟨k + 1, by omega, by go_num, by first | rfl | trivial, HR.out⟩
    case measure => simp [intOf]; omega
  ·have hnil : s.data.toList.drop k = [] := List.drop_eq_nil_of_le (by simp; omega)
   rw [hnil] at hrun
   have HR : Hid (runN p s.data.toList = s.size) := by
    show runN p s.data.toList = _
    rw [hrun]; simp [runN]; omega
   clear hrun hnil hp
   go_wp2_with fail
   go_ret
   exact ⟨by rw [HR.out]; rfl, rfl⟩
theorem RI (w : World) (c : UInt8) (o : Bool) : Calls Tryz.prog 156 #[.int .u8 (c.toNat : Int), .pointer (some ⟨w.heap.size, 0, none⟩)] (w.alloc (.cells #[.bool o] 4)) fun e w' =>
  if c.toNat = 39 then e = .returned (.bool true) ∧ w' = w.alloc (.cells #[.bool (!o)] 4) else e = .returned (.bool o) ∧ w' = w.alloc (.cells #[.bool o] 4) := by
 by_cases h : c.toNat = 39
 ·have q : ((c.toNat : Int) == 39) = true := by rw [h]; rfl
  simp only [h, if_true]
  have HC : Hid (c.toNat = 39) := h
  rw [← h]
  clear h
  go_enter Tryz.func156, Tryz.ntmps156
  go_wp2_with fail
  go_ret
  exact ⟨rfl, rfl⟩
 ·have q : ((c.toNat : Int) == 39) = false := by rw [beq_eq_false_iff_ne]; omega
  simp only [h, if_false]
  go_enter Tryz.func156, Tryz.ntmps156
  go_wp2_with fail
  go_ret
  exact ⟨rfl, rfl⟩
set_option maxHeartbeats 1000000 in
theorem RJ (w : World) (s : ByteArray) (hs : s.size ≤ 1000000) :
  Calls Tryz.prog 79 #[.string s, .func (.func 156) #[] #[.pointer (some ⟨w.heap.size, 0, none⟩)]] (w.alloc (.cells #[.bool false] 4)) fun e w' =>
   e = .returned (.int .i64 ((jw false s.data.toList).1 : Int)) ∧ w' = w.alloc (.cells #[.bool (jw false s.data.toList).2] 4) := by
 go_enter Tryz.func79, Tryz.ntmps79
 go_wp2_with fail
 go_loopw [8] (fun i wr => ∃ (k : Nat) (o : Bool), k ≤ s.size ∧ i = .int .i64 k ∧ wr = w.alloc (.cells #[.bool o] 4) ∧ jw false s.data.toList = (k + (jw o (s.data.toList.drop k)).1, (jw o (s.data.toList.drop k)).2)) (fun i _ => s.size - (intOf i).toNat)
 case atStart => exact ⟨0, false, Nat.zero_le _, rfl, rfl, by simp⟩
 case round =>
  obtain ⟨k, o, hks, rfl, rfl, hrun⟩ := hrel
  by_cases hk : k < s.size
  ·have hc := RI w s[k] o
   have i0 : (0 : Int) ≤ (k : Int) := by omega
   have i1 : (k : Int) < (s.size : Int) := by omega
   rw [byte_at s hk, jw] at hrun
   by_cases Nh : s[k].toNat = 39
   ·simp only [Nh, if_true] at hrun hc
    have HR : Hid (jw false s.data.toList = ((k + 1) + (jw (!o) (s.data.toList.drop (k + 1))).1, (jw (!o) (s.data.toList.drop (k + 1))).2)) := by
     show jw _ _ = _
     rw [hrun]; simp only [Prod.mk.injEq, and_true]; omega
    rw [← Nh] at hc
    clear hrun Nh
    go_wp2_with fail
    refine hc.mono ?_
    rintro e w1 ⟨rfl, hw1⟩
    subst w1
    go_wp2_with fail
    go_roundw
    case rel => exact ⟨k + 1, !o, by omega, by go_num, by first | rfl | trivial, HR.out⟩
    case measure => simp [intOf]; omega
   ·simp only [Nh, if_false] at hrun hc
    cases o
    ·have HR : Hid (jw false s.data.toList = (k, false)) := by
      show jw _ _ = _
      rw [hrun]; simp
     clear hrun Nh
     go_wp2_with fail
     refine hc.mono ?_
     rintro e w1 ⟨rfl, hw1⟩
     subst w1
     go_wp2_with fail
     go_ret
     exact ⟨by rw [HR.out]; rfl, by rw [HR.out]⟩
    ·have HR : Hid (jw false s.data.toList = ((k + 1) + (jw true (s.data.toList.drop (k + 1))).1, (jw true (s.data.toList.drop (k + 1))).2)) := by
      show jw _ _ = _
      rw [hrun]; simp only [if_true, Prod.mk.injEq, and_true]; omega
     clear hrun Nh
     go_wp2_with fail
     refine hc.mono ?_
     rintro e w1 ⟨rfl, hw1⟩
     subst w1
     go_wp2_with fail
     go_roundw
     case rel => exact ⟨k + 1, true, by omega, by go_num, by first | rfl | trivial, HR.out⟩
     case measure => simp [intOf]; omega
  ·have hnil : s.data.toList.drop k = [] := List.drop_eq_nil_of_le (by simp; omega)
   rw [hnil] at hrun
   have HR : Hid (jw false s.data.toList = (s.size, o)) := by
    show jw _ _ = _
    rw [hrun]; simp [jw]; omega
   clear hrun hnil
   go_wp2_with fail
   go_ret
   exact ⟨by rw [HR.out]; rfl, by rw [HR.out]⟩
end Go.Proofs.YthogkmcahnkkoaaGreatDoor
