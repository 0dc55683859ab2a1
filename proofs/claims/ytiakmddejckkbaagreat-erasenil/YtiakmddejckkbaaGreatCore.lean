/- Tools of all layers: how contracts are joined, slices of texts, of pairs of texts and of numbers in memory, and slices of the calls' own whose elements are one cell each. -/
import Derived.Test.YtiakmddejckkbaaGreatChecked
import Derived.WalkKit
import Derived.WalkLawsBesides
import Derived.Outline
import Derived.Lib.QuietBelow
import Derived.BigQuiet
import Derived.OwnWalk
import Derived.Laws.AppendOwnNone
import Derived.Laws.OwnMore
import Derived.Laws.CopyOwn
import Derived.Deep.RegionLaw
namespace Go.Proofs.YtiakmddejckkbaaGreat
open Go.RowKit Go.Sort

/-- The number fits 64 bits. -/
def inR (z : Int) : Prop := -9223372036854775808 ≤ z ∧ z ≤ 9223372036854775807
theorem inR_wf {z : Int} (h : (Lit.int .i64 z).wf = true) : inR z := by
  simp only [Lit.wf, IntKind.min, IntKind.max, IntKind.signed, IntKind.bits, Bool.and_eq_true, decide_eq_true_eq, if_true] at h
  unfold inR; omega
/-- The empty text. -/
abbrev E0 : ByteArray := ⟨#[]⟩
theorem empty_of {s : ByteArray} (h : s.toList = []) : s = E0 := by
  rw [ByteArray.toList_eq] at h
  cases s with
  | mk d => simp at h; rw [h]
theorem toList_inj {a b : ByteArray} (h : a.toList = b.toList) : a = b := by
  rw [ByteArray.toList_eq, ByteArray.toList_eq] at h
  cases a with
  | mk x => cases b with
    | mk y => simp at h; rw [h]
theorem toList_beq (a b : ByteArray) : (a.toList == b.toList) = decide (a = b) := by
  by_cases h : a = b
  · subst h; simp
  · have : ¬ a.toList = b.toList := fun e => h (toList_inj e)
    simp [h, this]

theorem bnew {w w1 : World} {o : Obj} (h : Below (w.alloc o).heap.size (w.alloc o) w1) : Below w.heap.size w w1 :=
  ((Below.refl w.heap.size w).alloc (Nat.le_refl _) o).trans (h.mono (by simp))
theorem bcell {W w1 : World} (hb : Below W.heap.size W w1) : (∀ b o, b < W.heap.size → w1.cell? ⟨b, o, none⟩ = W.cell? ⟨b, o, none⟩) ∧ (∀ b o, b < W.heap.size → w1.frozen? ⟨b, o, none⟩ = W.frozen? ⟨b, o, none⟩) :=
  ⟨fun b o h => hb.cell (p := ⟨b, o, none⟩) h, fun b o h => hb.frozen (p := ⟨b, o, none⟩) h⟩
theorem btrans {a b c : World} (h : Below a.heap.size a b) (k : Below b.heap.size b c) : Below a.heap.size a c := h.trans (k.mono h.size)
theorem cell_keep {w w' : World} {a : Addr} {v : Value} (h : w.cell? a = some v) (k : Below w.heap.size w w') : w'.cell? a = some v := (k.cell (block_lt_of_cell h)).trans h
theorem ret_int {k : IntKind} {a b : Int} (h : a = b) : Ending.returned (.int k a) = .returned (.int k b) := by rw [h]
theorem ret_bool {a b : Bool} (h : a = b) : Ending.returned (.bool a) = .returned (.bool b) := by rw [h]

/-- v is a slice of one-cell elements and holds cs. -/
def LiesC (w : World) (v : Value) (cs : List Value) : Prop :=
  ∃ ao cap, v = .slice ao cs.length cap ∧ ((ao = none → cap = 0) ∧ cs.length ≤ cap) ∧ ∀ i (h : i < cs.length), ∃ b off, ao = some ⟨b, off, none⟩ ∧ w.cell? ⟨b, off + i, none⟩ = some cs[i]
theorem LiesC.keep {w w' : World} {v : Value} {cs : List Value} (h : LiesC w v cs) (k : Below w.heap.size w w') : LiesC w' v cs := by
  obtain ⟨ao, cap, rfl, hn, hc⟩ := h
  refine ⟨ao, cap, rfl, hn, fun i hi => ?_⟩
  obtain ⟨b, off, h0, h1⟩ := hc i hi
  exact ⟨b, off, h0, cell_keep h1 k⟩
/-- v is a slice of texts and holds L. -/
def LiesS (w : World) (v : Value) (L : List ByteArray) : Prop :=
  ∃ ao cap, v = .slice ao L.length cap ∧ ((ao = none → cap = 0) ∧ L.length ≤ cap) ∧ ∀ i (h : i < L.length), ∃ b off, ao = some ⟨b, off, none⟩ ∧ w.cell? ⟨b, off + i, none⟩ = some (.string L[i])
theorem LiesS.keep {w w' : World} {v : Value} {L : List ByteArray} (h : LiesS w v L) (k : Below w.heap.size w w') : LiesS w' v L := by
  obtain ⟨ao, cap, rfl, hn, hc⟩ := h
  refine ⟨ao, cap, rfl, hn, fun i hi => ?_⟩
  obtain ⟨b, off, h0, h1⟩ := hc i hi
  exact ⟨b, off, h0, cell_keep h1 k⟩
/-- v is a slice of numbers and holds L. -/
def LiesN (w : World) (v : Value) (L : List Int) : Prop :=
  ∃ ao cap, v = .slice ao L.length cap ∧ ((ao = none → cap = 0) ∧ L.length ≤ cap) ∧ ∀ i (h : i < L.length), ∃ b off, ao = some ⟨b, off, none⟩ ∧ w.cell? ⟨b, off + i, none⟩ = some (.int .i64 L[i])
theorem LiesN.keep {w w' : World} {v : Value} {L : List Int} (h : LiesN w v L) (k : Below w.heap.size w w') : LiesN w' v L := by
  obtain ⟨ao, cap, rfl, hn, hc⟩ := h
  refine ⟨ao, cap, rfl, hn, fun i hi => ?_⟩
  obtain ⟨b, off, h0, h1⟩ := hc i hi
  exact ⟨b, off, h0, cell_keep h1 k⟩
/-- v is a slice of pairs of texts and holds E. -/
def LiesP (w : World) (v : Value) (E : List (ByteArray × ByteArray)) : Prop :=
  ∃ ao cap, v = .slice ao E.length cap ∧ ((ao = none → cap = 0) ∧ E.length ≤ cap) ∧ ∀ i (h : i < E.length), ∃ b off, ao = some ⟨b, off, none⟩ ∧ w.cell? ⟨b, off + i * 2, none⟩ = some (.string E[i].1) ∧ w.cell? ⟨b, off + i * 2 + 1, none⟩ = some (.string E[i].2)
theorem LiesP.keep {w w' : World} {v : Value} {E : List (ByteArray × ByteArray)} (h : LiesP w v E) (k : Below w.heap.size w w') : LiesP w' v E := by
  obtain ⟨ao, cap, rfl, hn, hc⟩ := h
  refine ⟨ao, cap, rfl, hn, fun i hi => ?_⟩
  obtain ⟨b, off, h0, h1, h2⟩ := hc i hi
  exact ⟨b, off, h0, cell_keep h1 k, cell_keep h2 k⟩
theorem lieS_at {w w' : World} {ao : Option Addr} {L : List ByteArray} (hc : ∀ i (h : i < L.length), ∃ b off, ao = some ⟨b, off, none⟩ ∧ w.cell? ⟨b, off + i, none⟩ = some (.string L[i])) (k : Below w.heap.size w w') {i : Nat} (h : i < L.length) :
    ∃ b off, ao = some ⟨b, off, none⟩ ∧ w'.cell? ⟨b, off + i, none⟩ = some (.string L[i]) := by
  obtain ⟨b, off, h0, h1⟩ := hc i h
  exact ⟨b, off, h0, cell_keep h1 k⟩
theorem lieN_at {w w' : World} {ao : Option Addr} {L : List Int} (hc : ∀ i (h : i < L.length), ∃ b off, ao = some ⟨b, off, none⟩ ∧ w.cell? ⟨b, off + i, none⟩ = some (.int .i64 L[i])) (k : Below w.heap.size w w') {i : Nat} (h : i < L.length) :
    ∃ b off, ao = some ⟨b, off, none⟩ ∧ w'.cell? ⟨b, off + i, none⟩ = some (.int .i64 L[i]) := by
  obtain ⟨b, off, h0, h1⟩ := hc i h
  exact ⟨b, off, h0, cell_keep h1 k⟩
theorem lieP_at {w w' : World} {ao : Option Addr} {E : List (ByteArray × ByteArray)} (hc : ∀ i (h : i < E.length), ∃ b off, ao = some ⟨b, off, none⟩ ∧ w.cell? ⟨b, off + i * 2, none⟩ = some (.string E[i].1) ∧ w.cell? ⟨b, off + i * 2 + 1, none⟩ = some (.string E[i].2)) (k : Below w.heap.size w w') {i : Nat} (h : i < E.length) :
    ∃ b off, ao = some ⟨b, off, none⟩ ∧ w'.cell? ⟨b, off + i * 2, none⟩ = some (.string E[i].1) ∧ w'.cell? ⟨b, off + i * 2 + 1, none⟩ = some (.string E[i].2) := by
  obtain ⟨b, off, h0, h1, h2⟩ := hc i h
  exact ⟨b, off, h0, cell_keep h1 k, cell_keep h2 k⟩

theorem LiesS.take {w : World} {b off k : Nat} {L : List ByteArray} {cap cap' : Nat} (h : LiesS w (.slice (some ⟨b, off, none⟩) L.length cap) L) (hk : k ≤ L.length) (hk' : k ≤ cap') : LiesS w (.slice (some ⟨b, off, none⟩) k cap') (L.take k) := by
  obtain ⟨ao, c, he, _, hc⟩ := h
  simp only [Value.slice.injEq] at he
  obtain ⟨rfl, _, rfl⟩ := he
  refine ⟨some ⟨b, off, none⟩, cap', by simp [Nat.min_eq_left hk], ⟨nofun, by simp; omega⟩, fun i hi => ?_⟩
  simp at hi
  obtain ⟨b', off', e, hcell⟩ := hc i (by omega)
  simp only [Option.some.injEq, Addr.mk.injEq] at e
  obtain ⟨rfl, rfl, _⟩ := e
  exact ⟨b, off, rfl, by simpa using hcell⟩

theorem LiesP.take {w : World} {b off k : Nat} {E : List (ByteArray × ByteArray)} {cap cap' : Nat} (h : LiesP w (.slice (some ⟨b, off, none⟩) E.length cap) E) (hk : k ≤ E.length) (hk' : k ≤ cap') : LiesP w (.slice (some ⟨b, off, none⟩) k cap') (E.take k) := by
  obtain ⟨ao, c, he, _, hc⟩ := h
  simp only [Value.slice.injEq] at he
  obtain ⟨rfl, _, rfl⟩ := he
  refine ⟨some ⟨b, off, none⟩, cap', by simp [Nat.min_eq_left hk], ⟨nofun, by simp; omega⟩, fun i hi => ?_⟩
  simp at hi
  obtain ⟨b', off', e, h1, h2⟩ := hc i (by omega)
  simp only [Option.some.injEq, Addr.mk.injEq] at e
  obtain ⟨rfl, rfl, _⟩ := e
  exact ⟨b, off, rfl, by simpa using h1, by simpa using h2⟩

/-- v is a slice of the calls' own, in a block from base on, of elements of type e that are one cell each, and holds xs. -/
def Own1 (w : World) (base : Nat) (e : TypeId) (v : Value) (xs : List Value) : Prop := w.ownsRow base e 1 v xs.length xs
theorem grownBy_of_below {w w' : World} (k : Below w.heap.size w w') : w.grownBy w' none := ⟨k.os, k.tape, k.output, k.size, fun i hi _ => k.block i hi⟩
theorem Own1.nil (w : World) (base : Nat) (e : TypeId) : Own1 w base e (.slice none 0 0) [] := World.ownsRow_nil _ _ _ _
theorem Own1.alloc {w : World} {base : Nat} {e : TypeId} {v : Value} {xs : List Value} (h : Own1 w base e v xs) (o : Obj) : Own1 (w.alloc o) base e v xs := World.ownsRow.alloc h o
theorem Own1.keep {w w' : World} {base : Nat} {e : TypeId} {v : Value} {xs : List Value} (h : Own1 w base e v xs) (k : Below w.heap.size w w') : Own1 w' base e v xs :=
  World.ownsRow.kept h (grownBy_of_below k) (by cases hv : v.ownBlock <;> simp)
theorem Own1.drew {w : World} {base : Nat} {e : TypeId} {v : Value} {xs : List Value} (h : Own1 w base e v xs) : Own1 w.drew base e v xs := h
theorem Own1.mono {w : World} {base base' : Nat} {e : TypeId} {v : Value} {xs : List Value} (h : Own1 w base e v xs) (hb : base' ≤ base) : Own1 w base' e v xs := by
  refine ⟨h.1, ?_⟩
  rcases h.2 with h | ⟨g, cap, cur, h1, h2, h3⟩
  · exact .inl h
  · exact .inr ⟨g, cap, cur, h1, Nat.le_trans hb h2, h3⟩
theorem Own1.shape {w : World} {base : Nat} {e : TypeId} {v : Value} {xs : List Value} (h : Own1 w base e v xs) : ∃ ao cap, v = .slice ao xs.length cap := by
  rcases h.2 with ⟨rfl, h0⟩ | ⟨g, cap, cur, rfl, _⟩
  · exact ⟨none, 0, by rw [h0]⟩
  · exact ⟨_, cap, rfl⟩
theorem Own1.shapeN {w : World} {base n : Nat} {e : TypeId} {v : Value} {xs : List Value} (h : Own1 w base e v xs) (hn : xs.length = n) : ∃ ao cap, v = .slice ao n cap := by
  subst hn; exact h.shape
theorem Own1.lies {w : World} {base : Nat} {e : TypeId} {v : Value} {xs : List Value} (h : Own1 w base e v xs) : LiesC w v xs := by
  rcases h.2 with ⟨rfl, h0⟩ | ⟨g, cap, cur, rfl, h3⟩
  · exact ⟨none, 0, by rw [h0], ⟨fun _ => rfl, by omega⟩, fun i hi => by omega⟩
  · refine ⟨_, cap, rfl, ⟨fun h => by simp at h, h3.2.2.1⟩, fun i hi => ⟨g, 0, rfl, ?_⟩⟩
    have := World.ownsRow.cells h (g := g) rfl i xs[i] (List.getElem?_eq_getElem hi)
    rwa [show (⟨g, 0, none⟩ : Addr).add i = ⟨g, 0 + i, none⟩ by unfold Addr.add; split <;> simp_all] at this
theorem LiesC.strings {w : World} {v : Value} {L : List ByteArray} (h : LiesC w v (L.map .string)) : LiesS w v L := by
  obtain ⟨ao, cap, h0, hn, hc⟩ := h
  refine ⟨ao, cap, by simpa using h0, by simpa using hn, fun i hi => ?_⟩
  obtain ⟨b, off, h1, h2⟩ := hc i (by simpa using hi)
  exact ⟨b, off, h1, by simpa using h2⟩
theorem LiesC.ints {w : World} {v : Value} {L : List Int} (h : LiesC w v (L.map (.int .i64))) : LiesN w v L := by
  obtain ⟨ao, cap, h0, hn, hc⟩ := h
  refine ⟨ao, cap, by simpa using h0, by simpa using hn, fun i hi => ?_⟩
  obtain ⟨b, off, h1, h2⟩ := hc i (by simpa using hi)
  exact ⟨b, off, h1, by simpa using h2⟩
theorem LiesS.cells {w : World} {v : Value} {L : List ByteArray} (h : LiesS w v L) : LiesC w v (L.map .string) := by
  obtain ⟨ao, cap, h0, hn, hc⟩ := h
  refine ⟨ao, cap, by simpa using h0, by simpa using hn, fun i hi => ?_⟩
  obtain ⟨b, off, h1, h2⟩ := hc i (by simpa using hi)
  exact ⟨b, off, h1, by simpa using h2⟩

/-- append(v, u...): u is any slice that lies in memory. -/
theorem wpList_cat1 {ops : Array Oper} {rest : List Oper} {o : Oper} {a : Act} {Q : Exit → Act → World → Prop} {w : World} {base : Nat} {v u : Value} {xs ys : List Value} {t e : TypeId} {z : Value} {bytes : Nat}
    (hinfo : (Tryz.prog.info? e).map (fun i => (i.zero, i.size, i.bytes)) = some (some z, 1, bytes)) (ht : Tryz.prog.underlying t = some (.slice e)) (hzc : z.cells.size = 1) (hby : bytes ≤ 64)
    (s x : Operand) (hgd : o.guard = none) (ho : o.op = .call { callee := .builtin .append, args := #[s, x], argTypes := #[t, t] })
    (hs : a.eval s = v) (hx : a.eval x = u) (hown : Own1 w base e v xs) (hsrc : LiesC w u ys) (h1 : ∀ y ∈ ys, y.oneCell' = true) (hb : base ≤ w.heap.size) (hlen : xs.length + ys.length ≤ 1000000000)
    (h : ∀ v' w', Own1 w' base e v' (xs ++ ys) → Below base w w' → w.grownBy w' v.ownBlock → wpList Tryz.prog ops Q rest (a.put o.dst v') w') :
    wpList Tryz.prog ops Q (o :: rest) a w := by
  obtain ⟨i0, hi, hz0, hz1, hz2⟩ := info_parts hinfo
  obtain ⟨ao, cap, rfl, hn, hc⟩ := hsrc
  cases ao with
  | none =>
    have h0 : ys = [] := by
      cases ys with
      | nil => rfl
      | cons y r => obtain ⟨b, off, hx, _⟩ := hc 0 (by simp); cases hx
    subst h0
    rw [hn.1 rfl] at hx
    refine wpList_append_own_none hgd s x t ho base e i0 1 ht hi v xs.length xs hs hown hx ?_
    exact h v w (by rw [List.append_nil]; exact hown) (Below.refl _ _) ⟨rfl, rfl, rfl, Nat.le_refl _, fun _ _ _ => rfl⟩
  | some ad =>
    refine wpList_append_own _ hgd s x t ho base e i0 z 1 bytes ht hi hz0 hz1 hz2 hzc (by decide) v xs.length xs hs hown ad ys.length cap ys hx (by rw [Nat.mul_one]) ?_ h1 ?_ ?_ hb ?_
    · intro j u hj
      obtain ⟨hjl, rfl⟩ := List.getElem?_eq_some_iff.1 hj
      obtain ⟨b, off, hx, hcell⟩ := hc j hjl
      simp only [Option.some.injEq] at hx
      subst hx
      rw [show (⟨b, off, none⟩ : Addr).add j = ⟨b, off + j, none⟩ by unfold Addr.add; split <;> simp_all]
      exact hcell
    · unfold maxLen; omega
    · exact Nat.le_trans (Nat.mul_le_mul hlen hby) (by decide)
    · intro v' w' g1 g2 _
      refine h v' w' ?_ (Below.grown (Below.refl _ _) g2 hb fun k hk => (World.ownsRow.lt hown k hk).1) g2
      unfold Own1
      rw [List.length_append]
      exact g1

/-- One append of what lies in a new block. -/
theorem wpList_push1 {ops : Array Oper} {rest : List Oper} {o : Oper} {a : Act} {Q : Exit → Act → World → Prop} {w : World} {base : Nat} {v : Value} {xs ys : List Value} {t e : TypeId} {z : Value} {bytes : Nat} {C : Array Value} {H : Nat}
    (hinfo : (Tryz.prog.info? e).map (fun i => (i.zero, i.size, i.bytes)) = some (some z, 1, bytes)) (ht : Tryz.prog.underlying t = some (.slice e)) (hzc : z.cells.size = 1) (hby : bytes ≤ 64)
    (s x : Operand) (hgd : o.guard = none) (ho : o.op = .call { callee := .builtin .append, args := #[s, x], argTypes := #[t, t] })
    (hs : a.eval s = v) (hx : a.eval x = .slice (some ⟨H, 0, none⟩) ys.length ys.length) (hH : w.heap.size = H) (hC : C.toList = ys) (hown : Own1 w base e v xs) (h1 : ∀ y ∈ ys, y.oneCell' = true) (hb : base ≤ w.heap.size) (hlen : xs.length + ys.length ≤ 1000000000)
    (h : ∀ v' w', Own1 w' base e v' (xs ++ ys) → Below base w w' → w.grownBy w' v.ownBlock → wpList Tryz.prog ops Q rest (a.put o.dst v') w') :
    wpList Tryz.prog ops Q (o :: rest) a (w.alloc (.cells C e)) := by
  subst hH
  refine wpList_cat1 hinfo ht hzc hby s x hgd ho hs hx (hown.alloc _) ⟨_, _, rfl, ⟨fun h => by simp at h, Nat.le_refl _⟩, fun i hi => ⟨w.heap.size, 0, rfl, ?_⟩⟩ h1 (by simp; omega) hlen ?_
  · rw [cell_of_row _ w.heap.size (0 + i) C e (0, 0) (heap_alloc_new w _), Nat.zero_add]
    subst hC
    simp at hi
    simp [hi]
  · intro v' w' g1 g2 g3
    refine h v' w' g1 (((Below.refl _ _).alloc hb _).trans g2) ?_
    have ga := World.grownBy_alloc w (.cells C e) v.ownBlock
    exact ⟨g3.os.trans ga.os, g3.tape.trans ga.tape, g3.output.trans ga.output, Nat.le_trans ga.size g3.size, fun k hk hne => (g3.block k (Nat.lt_of_lt_of_le hk ga.size) hne).trans (ga.block k hk hne)⟩

/-- A slice that is written out. -/
theorem Own1.lit (w : World) {base H : Nat} {e : TypeId} {C : Array Value} (ys : List Value) (hC : C.toList = ys) (hb : base ≤ w.heap.size) (hH : w.heap.size = H) (hlen : ys.length ≤ 1000000000) :
    Own1 (w.alloc (.cells C e)) base e (.slice (some ⟨H, 0, none⟩) ys.length ys.length) ys := by
  subst hH hC
  rw [Array.length_toList] at hlen ⊢
  have := World.ownsRow_lit (base := base) (e := e) (size := 1) w C C.size hb (by unfold maxLen; omega) (by rw [Nat.mul_one])
  unfold Own1
  rw [Array.length_toList]
  exact this
/-- make([]T, n). -/
theorem wpList_make1 {ops : Array Oper} {rest : List Oper} {o : Oper} {a : Act} {Q : Exit → Act → World → Prop} {w : World} {base : Nat} {t e : TypeId} {z : Value} {bytes : Nat}
    (hinfo : (Tryz.prog.info? e).map (fun i => (i.zero, i.size, i.bytes)) = some (some z, 1, bytes)) (ht : Tryz.prog.underlying t = some (.slice e)) (hzc : z.cells = #[z]) (hby : bytes ≤ 64)
    (l c : Operand) (hgd : o.guard = none) (hop : o.op = Op.makeSlice t l c) (kl kc : IntKind) (n : Nat) (hl : a.eval l = .int kl (n : Int)) (hc : a.eval c = .int kc (n : Int)) (hn : n ≤ 1000000000) (hb : base ≤ w.heap.size)
    (h : ∀ w', Own1 w' base e (.slice (some ⟨w.heap.size, 0, none⟩) n n) (List.replicate n z) → Below base w w' → wpList Tryz.prog ops Q rest (a.put o.dst (.slice (some ⟨w.heap.size, 0, none⟩) n n)) w') :
    wpList Tryz.prog ops Q (o :: rest) a w := by
  obtain ⟨i0, hi, hz0, hz1, hz2⟩ := info_parts hinfo
  refine wpList_make_full w hgd l c t hop base e i0 z 1 ht hi hz0 hz1 kl kc n n n hl hc rfl rfl ?_ (by unfold maxLen; omega) hb ?_
  · rw [hz2]
    exact Nat.le_trans (Nat.mul_le_mul hby hn) (by decide)
  · intro w' g1 g2
    refine h w' ?_ (Below.grown (Below.refl _ _) g2 hb fun k hk => by cases hk)
    rw [hzc, Nat.mul_one, toList_madeCells_one] at g1
    unfold Own1
    rw [List.length_replicate]
    exact g1

theorem Own1.block {w : World} {base : Nat} {e : TypeId} {v : Value} {xs : List Value} (h : Own1 w base e v xs) {g : Nat} (hg : v.ownBlock = some g) : base ≤ g ∧ ∃ cur, w.heap[g]? = some (.cells cur e (0, 0)) := by
  rcases h.2 with ⟨rfl, _⟩ | ⟨g', cap, cur, rfl, hb, hh, _⟩
  · simp [Value.ownBlock] at hg
  · simp [Value.ownBlock] at hg
    subst hg
    exact ⟨hb, cur, hh⟩
/-- What lies in rows of another type is not touched. -/
theorem Own1.grown {w w' : World} {base base' : Nat} {e e' : TypeId} {v u : Value} {xs ys : List Value} (h : Own1 w base e v xs) (hu : Own1 w base' e' u ys) (hne : e ≠ e') (hg : w.grownBy w' u.ownBlock) : Own1 w' base e v xs := by
  refine World.ownsRow.kept h hg ?_
  cases hv : v.ownBlock with
  | none => exact .inl rfl
  | some g =>
    refine .inr fun hc => hne ?_
    obtain ⟨_, cur, h1⟩ := h.block hv
    obtain ⟨_, cur', h2⟩ := hu.block hc.symm
    rw [h1] at h2
    simp at h2
    exact h2.2
theorem heap_grown {w w' : World} {base' q : Nat} {T e' : TypeId} {u : Value} {ys : List Value} {C : Array Value} (h : w.heap[q]? = some (.cells C T (0, 0))) (hu : Own1 w base' e' u ys) (hne : T ≠ e') (hg : w.grownBy w' u.ownBlock) : w'.heap[q]? = some (.cells C T (0, 0)) := by
  have hq : q < w.heap.size := (Array.getElem?_eq_some_iff.1 h).1
  rw [hg.block q hq ?_]
  · exact h
  · intro hc
    obtain ⟨_, cur', h2⟩ := hu.block hc.symm
    rw [h] at h2
    simp at h2
    exact hne h2.2
theorem Own1.setOther {w : World} {base q i : Nat} {T e : TypeId} {v x : Value} {xs : List Value} {C : Array Value} (h : Own1 w base e v xs) (hq : w.heap[q]? = some (.cells C T (0, 0))) (hne : e ≠ T) : Own1 (w.setCell ⟨q, i, none⟩ x) base e v xs := by
  refine World.ownsRow.kept (row := some q) h ⟨rfl, rfl, rfl, by simp, fun k _ hk => heap_setCell_other w ⟨q, i, none⟩ k x (fun e => hk (by simp [e]))⟩ ?_
  cases hv : v.ownBlock with
  | none => exact .inl rfl
  | some g =>
    refine .inr fun hc => hne ?_
    obtain ⟨_, cur, h1⟩ := h.block hv
    simp only [Option.some.injEq] at hc
    subst hc
    rw [h1] at hq
    simp at hq
    exact hq.2
theorem Own1.cell {w : World} {base : Nat} {e : TypeId} {ao : Option Addr} {n cap : Nat} {xs : List Value} (h : Own1 w base e (.slice ao n cap) xs) {i : Nat} (hi : i < xs.length) :
    ∃ g, ao = some ⟨g, 0, none⟩ ∧ base ≤ g ∧ w.cell? ⟨g, i, none⟩ = some xs[i] ∧ w.frozen? ⟨g, i, none⟩ = false := by
  rcases h.2 with ⟨_, h0⟩ | ⟨g, cap', cur, hv, hb, hh, hrest⟩
  · omega
  · simp only [Value.slice.injEq] at hv
    obtain ⟨rfl, rfl, rfl⟩ := hv
    refine ⟨g, rfl, hb, ?_, ?_⟩
    · rw [World.ownsRow.cellAt h i (by omega)]
      exact List.getElem?_eq_getElem hi
    · exact World.ownsRow.frozenAt h i
theorem Own1.cellAt {w : World} {base g n cap : Nat} {e : TypeId} {xs : List Value} (h : Own1 w base e (.slice (some ⟨g, 0, none⟩) n cap) xs) {i : Nat} (hi : i < xs.length) : w.cell? ⟨g, i, none⟩ = some xs[i] ∧ w.frozen? ⟨g, i, none⟩ = false := by
  obtain ⟨g', hg, _, h1, h2⟩ := h.cell hi
  simp only [Option.some.injEq, Addr.mk.injEq] at hg
  obtain ⟨rfl, _⟩ := hg
  exact ⟨h1, h2⟩
theorem Own1.stored {w : World} {base g cap : Nat} {e : TypeId} {xs : List Value} (h : Own1 w base e (.slice (some ⟨g, 0, none⟩) xs.length cap) xs) (i : Nat) (u : Value) :
    Own1 (w.setCell ⟨g, i, none⟩ u) base e (.slice (some ⟨g, 0, none⟩) xs.length cap) (xs.set i u) := by
  have := (World.ownsRow.stored h i u).1
  unfold Own1
  rw [List.length_set]
  exact this

/-- copy(v, u): v is a slice of the calls' own, u lies in memory and is as long. -/
theorem wpList_copy1 {ops : Array Oper} {rest : List Oper} {o : Oper} {a : Act} {Q : Exit → Act → World → Prop} {w : World} {base : Nat} {v u : Value} {xs ys : List Value} {t e : TypeId}
    (ht : Tryz.prog.underlying t = some (.slice e)) (hsz : (Tryz.prog.info? e).map (·.size) = some 1)
    (d s : Operand) (hgd : o.guard = none) (ho : o.op = .call { callee := .builtin .copy, args := #[d, s], argTypes := #[t, t] })
    (hd : a.eval d = v) (hs : a.eval s = u) (hown : Own1 w base e v xs) (hsrc : LiesC w u ys) (hlen : ys.length = xs.length) (h1 : ∀ y ∈ ys, y.oneCell' = true)
    (h : ∀ w', Own1 w' base e v ys → Below base w w' → w.grownBy w' v.ownBlock → wpList Tryz.prog ops Q rest (a.put o.dst (goInt ys.length)) w') :
    wpList Tryz.prog ops Q (o :: rest) a w := by
  obtain ⟨ao, cap, rfl, _, hc⟩ := hsrc
  rcases hown.2 with ⟨rfl, h0⟩ | ⟨g, vcap, cur, rfl, hb, hg, hnc, hcm, hcs, htake⟩
  · have hy : ys = [] := List.eq_nil_of_length_eq_zero (by omega)
    subst hy
    have hx : xs = [] := List.eq_nil_of_length_eq_zero h0
    subst hx
    refine wpList_copy_nothing hgd d s t t ho e ht hsz none ao 0 0 0 cap hd hs (by simp) ?_
    exact h w hown (Below.refl _ _) ⟨rfl, rfl, rfl, Nat.le_refl _, fun _ _ _ => rfl⟩
  · by_cases h0 : ys.length = 0
    · have hy : ys = [] := List.eq_nil_of_length_eq_zero h0
      subst hy
      have hx : xs = [] := List.eq_nil_of_length_eq_zero (by simpa using hlen.symm)
      subst hx
      refine wpList_copy_nothing hgd d s t t ho e ht hsz (some ⟨g, 0, none⟩) ao 0 vcap 0 cap hd hs (by simp) ?_
      exact h w hown (Below.refl _ _) ⟨rfl, rfl, rfl, Nat.le_refl _, fun _ _ _ => rfl⟩
    · obtain ⟨b0, off0, rfl, _⟩ := hc 0 (by omega)
      simp only [Nat.mul_one] at hcs htake
      refine wpList_copy_own hgd d s t t ho e ht hsz g 0 xs.length vcap ⟨b0, off0, none⟩ ys.length cap hd hs cur e hg ys (by rw [hlen]; exact (Nat.min_self _).symm) ?_ (by omega) h1 ?_
      · intro j y hj
        obtain ⟨hjl, rfl⟩ := List.getElem?_eq_some_iff.1 hj
        obtain ⟨b, off, hx, hcell⟩ := hc j hjl
        simp only [Option.some.injEq, Addr.mk.injEq] at hx
        obtain ⟨rfl, rfl, _⟩ := hx
        rw [show (⟨b0, off0, none⟩ : Addr).add j = ⟨b0, off0 + j, none⟩ by unfold Addr.add; split <;> simp_all]
        exact hcell
      · have hgr : w.grownBy (w.setRow g (cur.toList.take 0 ++ (ys ++ cur.toList.drop (0 + ys.length))).toArray) (some g) := ⟨rfl, rfl, rfl, by simp [World.setRow], fun k _ hk => setRow_other w g k _ (fun e => hk (by simp [e]))⟩
        refine h _ ⟨by simp, .inr ⟨g, vcap, _, by rw [hlen], hb, setRow_heap w g _ _ e _ hg, by omega, hcm, ?_, ?_⟩⟩ (Below.grown (Below.refl _ _) hgr (Nat.le_trans hb (Nat.le_of_lt (Array.getElem?_eq_some_iff.1 hg).1)) fun k hk => by simp only [Option.some.injEq] at hk; omega) hgr
        · simp; omega
        · simp

end Go.Proofs.YtiakmddejckkbaaGreat
