/- Rows that the calls themselves make, a value behind the other; Few, alive and Key. -/
import Derived.Test.YtcnbbmgclphfdaaDoorRows2
namespace Go.Proofs.YtcnbbmgclphfdaaDoor
open Go.RowKit Go.Sort

def entCells (e : Ent) : List Value := [.int .i64 e.1, .int .i64 e.2.1, .string e.2.2]
def rowCells (l : List Ent) : List Value := l.flatMap entCells
theorem rowCells_append (l m : List Ent) : rowCells (l ++ m) = rowCells l ++ rowCells m := by simp [rowCells]
theorem rowCells_length (l : List Ent) : (rowCells l).length = l.length * 3 := by
  induction l with
  | nil => rfl
  | cons e l ih =>
    have : rowCells (e :: l) = entCells e ++ rowCells l := rfl
    rw [this, List.length_append, ih]
    simp [entCells]; omega
theorem rowCells_get : ∀ (l : List Ent) (i : Nat) (h : i < l.length), (rowCells l)[i * 3]? = some (.int .i64 l[i].1) ∧ (rowCells l)[i * 3 + 1]? = some (.int .i64 l[i].2.1) ∧ (rowCells l)[i * 3 + 2]? = some (.string l[i].2.2)
  | e :: l, 0, _ => ⟨rfl, rfl, rfl⟩
  | e :: l, i + 1, h => by
    obtain ⟨h1, h2, h3⟩ := rowCells_get l i (by simpa using h)
    have hc : rowCells (e :: l) = .int .i64 e.1 :: .int .i64 e.2.1 :: .string e.2.2 :: rowCells l := rfl
    have e1 : (i + 1) * 3 = i * 3 + 1 + 1 + 1 := by omega
    rw [hc, e1]
    refine ⟨?_, ?_, ?_⟩
    · simpa using h1
    · rw [show i * 3 + 1 + 1 + 1 + 1 = (i * 3 + 1) + 1 + 1 + 1 from rfl]; simpa using h2
    · rw [show i * 3 + 1 + 1 + 1 + 2 = (i * 3 + 2) + 1 + 1 + 1 from rfl]; simpa using h3
theorem rowCells_one {u : Value} {l : List Ent} (h : u ∈ rowCells l) : u.oneCell' = true := by
  simp only [rowCells, entCells, List.mem_flatMap, List.mem_cons, List.not_mem_nil, or_false] at h
  obtain ⟨e, _, rfl | rfl | rfl⟩ := h <;> rfl

theorem info_V : (Tryd.prog.info? 28).map (fun i => (i.zero, i.size, i.bytes)) = some (some (.agg #[.int .i64 0, .int .i64 0, .string E0]), 3, 32) := by kernel_rfl

/-- v is a slice of values of the calls' own, in a block from base on, and holds l. -/
def OwnV (w : World) (base : Nat) (v : Value) (l : List Ent) : Prop := w.ownsRow base 28 3 v l.length (rowCells l)
theorem OwnV.nil (w : World) (base : Nat) : OwnV w base (.slice none 0 0) [] := World.ownsRow_nil _ _ _ _
theorem OwnV.alloc {w : World} {base : Nat} {v : Value} {l : List Ent} (h : OwnV w base v l) (o : Obj) : OwnV (w.alloc o) base v l := World.ownsRow.alloc h o
theorem OwnV.keep {w w' : World} {base : Nat} {v : Value} {l : List Ent} (h : OwnV w base v l) (k : Below w.heap.size w w') : OwnV w' base v l :=
  World.ownsRow.kept h (grownBy_of_below k) (by cases hv : v.ownBlock <;> simp)
theorem OwnV.mono {w : World} {base base' : Nat} {v : Value} {l : List Ent} (h : OwnV w base v l) (hb : base' ≤ base) : OwnV w base' v l := ownsRow_mono h hb
theorem OwnV.lies {w : World} {base : Nat} {v : Value} {l : List Ent} (h : OwnV w base v l) : Lies w v l := by
  rcases h.2 with ⟨rfl, h0⟩ | ⟨g, cap, cur, rfl, hrest⟩
  · have : l = [] := List.eq_nil_of_length_eq_zero h0
    subst this
    exact ⟨none, 0, rfl, fun i hi => absurd hi (by simp)⟩
  · refine ⟨_, cap, rfl, fun i hi => ⟨g, 0, rfl, ?_⟩⟩
    obtain ⟨h1, h2, h3⟩ := rowCells_get l i hi
    have hadd : ∀ j, (⟨g, 0, none⟩ : Addr).add j = ⟨g, 0 + j, none⟩ := fun j => by unfold Addr.add; split <;> simp_all
    refine ⟨?_, ?_, ?_⟩
    · rw [← hadd]; exact World.ownsRow.cells h (g := g) rfl _ _ h1
    · rw [Nat.add_assoc, ← hadd]; exact World.ownsRow.cells h (g := g) rfl _ _ h2
    · rw [Nat.add_assoc, ← hadd]; exact World.ownsRow.cells h (g := g) rfl _ _ h3

/-- One append of values that lie in a new block. -/
theorem wpList_pushV {ops : Array Oper} {rest : List Oper} {o : Oper} {a : Act} {Q : Exit → Act → World → Prop} {w : World} {base : Nat} {v : Value} {l : List Ent} {C : Array Value} {H : Nat}
    (s x : Operand) (hgd : o.guard = none) (ho : o.op = .call { callee := .builtin .append, args := #[s, x], argTypes := #[32, 32] })
    (hs : a.eval s = v) (hown : OwnV w base v l) (hb : base ≤ w.heap.size) (m : List Ent) (hC : C.toList = rowCells m)
    (hx : a.eval x = .slice (some ⟨H, 0, none⟩) m.length m.length) (hH : w.heap.size = H) (hlen : l.length + m.length ≤ 1000000000)
    (h : ∀ v' w', OwnV w' base v' (l ++ m) → Below base w w' → wpList Tryd.prog ops Q rest (a.put o.dst v') w') :
    wpList Tryd.prog ops Q (o :: rest) a (w.alloc (.cells C 28)) := by
  subst hH
  obtain ⟨i0, hi, hz0, hz1, hz2⟩ := info_parts info_V
  refine wpList_append_own _ hgd s x 32 ho base 28 i0 _ 3 32 Tryd.underlying32 hi hz0 hz1 hz2 rfl (by decide) v l.length (rowCells l) hs (hown.alloc _) ⟨w.heap.size, 0, none⟩ m.length m.length (rowCells m) hx (rowCells_length m) ?_ (fun u hu => rowCells_one hu) ?_ ?_ ?_ ?_
  · intro j u hj
    rw [← hC] at hj
    have hadd : (⟨w.heap.size, 0, none⟩ : Addr).add j = ⟨w.heap.size, j, none⟩ := by unfold Addr.add; split <;> simp_all
    rw [hadd, cell_of_row _ w.heap.size j C 28 (0, 0) (heap_alloc_new w _)]
    simpa using hj
  · unfold maxLen; omega
  · omega
  · simp; omega
  · intro v' w' h1 h2 _
    refine h v' w' ?_ ?_
    · unfold OwnV
      rw [rowCells_append, List.length_append]
      exact h1
    · refine Below.grown ((Below.refl _ _).alloc hb _) h2 (by simp; omega) fun k hk => (World.ownsRow.lt hown k hk).1

/-- Is a row gone through? -/
def fewB (l : List Ent) : Bool := l.all (fun e => decide (e.2.2.size ≤ 1100)) && decide (l.length ≤ 60)

set_option maxHeartbeats 1000000 in
theorem few_any (w : World) (v : Value) (l : List Ent) (hl : Lies w v l) (hm : l.length ≤ maxLen) :
    Calls Tryd.prog 40 #[v] w fun e w' => e = .returned (.bool (fewB l)) ∧ w' = w := by
  obtain ⟨ao, cap, rfl, hc⟩ := hl
  have hm' : l.length ≤ 9223372036854775807 := by unfold maxLen at hm; omega
  clear hm
  go_enter Tryd.func40, Tryd.ntmps40
  go_wp2
  go_loopw [6] (fun i wr => ∃ k : Nat, k ≤ l.length ∧ i = .int .i64 k ∧ wr = w ∧ (l.take k).all (fun e => decide (e.2.2.size ≤ 1100)) = true) (fun i _ => l.length - (intOf i).toNat)
  case atStart => exact ⟨0, Nat.zero_le _, rfl, rfl, rfl⟩
  case round =>
    obtain ⟨k, hk, rfl, rfl, ha⟩ := hrel
    have HA : Hid ((l.take k).all (fun e => decide (e.2.2.size ≤ 1100)) = true) := ha
    clear ha
    by_cases hlt : k < l.length
    · obtain ⟨b, off, rfl, h1, h2, h3⟩ := hc k hlt
      have HT : Hid (l.take (k + 1) = l.take k ++ [l[k]]) := List.take_succ_eq_append_getElem hlt
      have HM : Hid (l[k] ∈ l) := List.getElem_mem hlt
      generalize l[k] = en at h1 h2 h3 HT HM
      obtain ⟨t, n, s⟩ := en
      simp only at h1 h2 h3
      clear hc
      by_cases hs : s.size ≤ 1100
      · go_wp2
        go_roundw
        case rel => exact ⟨k + 1, by omega, by go_num, by first | rfl | trivial, by rw [HT.out, List.all_append, HA.out]; simp [hs]⟩
        case measure => simp [intOf]; omega
      · go_wp2
        go_ret
        refine ⟨?_, rfl⟩
        have : fewB l = false := by
          have h1 : l.all (fun e => decide (e.2.2.size ≤ 1100)) = false := List.all_eq_false.2 ⟨_, HM.out, by simpa using hs⟩
          rw [fewB, h1]; rfl
        rw [this]
        rfl
    · have hkk : k = l.length := by omega
      subst hkk
      rw [List.take_length] at HA
      go_wp2
      go_ret
      refine ⟨?_, rfl⟩
      rw [fewB, HA.out]
      simp
      omega

end Go.Proofs.YtcnbbmgclphfdaaDoor
