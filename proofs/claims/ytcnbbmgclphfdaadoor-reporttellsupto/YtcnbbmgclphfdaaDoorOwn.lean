/- Slices of bytes and of values that the calls themselves make: what they hold, what an append makes of them, and what the text of bytes is. -/
import Derived.Test.YtcnbbmgclphfdaaDoorLogic
import Derived.OwnWalk
import Derived.Laws.AppendOwnNone
import Derived.Laws.IdiomStrings
import Derived.Laws.BytesArg
import Derived.Deep.RegionLaw
namespace Go.Proofs.YtcnbbmgclphfdaaDoor
open Go.RowKit Go.Sort

/-- Bytes as cells. -/
def bcells (l : List UInt8) : List Value := l.map fun b => Value.int .u8 (b.toNat : Int)
theorem bcells_append (l m : List UInt8) : bcells (l ++ m) = bcells l ++ bcells m := by simp [bcells]
theorem bcells_length (l : List UInt8) : (bcells l).length = l.length := by simp [bcells]
theorem bcells_one {u : Value} {l : List UInt8} (h : u ∈ bcells l) : u.oneCell' = true := by
  simp only [bcells, List.mem_map] at h
  obtain ⟨b, _, rfl⟩ := h
  rfl

theorem info_u8 : (Tryd.prog.info? 5).map (fun i => (i.zero, i.size, i.bytes)) = some (some (.int .u8 0), 1, 1) := by kernel_rfl

/-- v is a slice of bytes of the calls' own, in a block from base on, and holds bs. -/
def OwnB (w : World) (base : Nat) (v : Value) (bs : List UInt8) : Prop := w.ownsRow base 5 1 v bs.length (bcells bs)

theorem OwnB.nil (w : World) (base : Nat) : OwnB w base (.slice none 0 0) [] := World.ownsRow_nil _ _ _ _
theorem OwnB.alloc {w : World} {base : Nat} {v : Value} {bs : List UInt8} (h : OwnB w base v bs) (o : Obj) : OwnB (w.alloc o) base v bs := World.ownsRow.alloc h o
theorem grownBy_of_below {w w' : World} (k : Below w.heap.size w w') : w.grownBy w' none := ⟨k.os, k.tape, k.output, k.size, fun i hi _ => k.block i hi⟩
theorem OwnB.keep {w w' : World} {base : Nat} {v : Value} {bs : List UInt8} (h : OwnB w base v bs) (k : Below w.heap.size w w') : OwnB w' base v bs :=
  World.ownsRow.kept h (grownBy_of_below k) (by cases hv : v.ownBlock <;> simp)
theorem ownsRow_mono {w : World} {base base' : Nat} {e : TypeId} {size : Nat} {v : Value} {n : Nat} {xs : List Value} (h : w.ownsRow base e size v n xs) (hb : base' ≤ base) : w.ownsRow base' e size v n xs := by
  refine ⟨h.1, ?_⟩
  rcases h.2 with h | ⟨g, cap, cur, h1, h2, h3⟩
  · exact .inl h
  · exact .inr ⟨g, cap, cur, h1, Nat.le_trans hb h2, h3⟩
theorem OwnB.mono {w : World} {base base' : Nat} {v : Value} {bs : List UInt8} (h : OwnB w base v bs) (hb : base' ≤ base) : OwnB w base' v bs := ownsRow_mono h hb

/-- One append of bytes that lie in a new block. -/
theorem wpList_push {ops : Array Oper} {rest : List Oper} {o : Oper} {a : Act} {Q : Exit → Act → World → Prop} {w : World} {base : Nat} {v : Value} {bs : List UInt8} {C : Array Value} {H : Nat}
    (s x : Operand) (hgd : o.guard = none) (ho : o.op = .call { callee := .builtin .append, args := #[s, x], argTypes := #[58, 58] })
    (hs : a.eval s = v) (hown : OwnB w base v bs) (hb : base ≤ w.heap.size) (cs : List UInt8) (hC : C.toList = bcells cs)
    (hx : a.eval x = .slice (some ⟨H, 0, none⟩) cs.length cs.length) (hH : w.heap.size = H) (hlen : bs.length + cs.length ≤ 1000000000)
    (h : ∀ v' w', OwnB w' base v' (bs ++ cs) → Below base w w' → wpList Tryd.prog ops Q rest (a.put o.dst v') w') :
    wpList Tryd.prog ops Q (o :: rest) a (w.alloc (.cells C 5)) := by
  subst hH
  obtain ⟨i0, hi, hz0, hz1, hz2⟩ := info_parts info_u8
  refine wpList_append_own _ hgd s x 58 ho base 5 i0 (.int .u8 0) 1 1 Tryd.underlying58 hi hz0 hz1 hz2 rfl (by decide) v bs.length (bcells bs) hs (hown.alloc _) ⟨w.heap.size, 0, none⟩ cs.length cs.length (bcells cs) hx (by rw [bcells_length, Nat.mul_one]) ?_ (fun u hu => bcells_one hu) ?_ ?_ ?_ ?_
  · intro j u hj
    rw [← hC] at hj
    have hadd : (⟨w.heap.size, 0, none⟩ : Addr).add j = ⟨w.heap.size, j, none⟩ := by unfold Addr.add; split <;> simp_all
    rw [hadd, cell_of_row _ w.heap.size j C 5 (0, 0) (heap_alloc_new w _)]
    simpa using hj
  · unfold maxLen; omega
  · omega
  · simp; omega
  · intro v' w' h1 h2 _
    refine h v' w' ?_ ?_
    · unfold OwnB
      rw [bcells_append, List.length_append]
      exact h1
    · refine Below.grown ((Below.refl _ _).alloc hb _) h2 (by simp; omega) fun k hk => (World.ownsRow.lt hown k hk).1

/-- string(b). -/
theorem run_string {w : World} {base : Nat} {v : Value} {bs : List UInt8} (h : OwnB w base v bs) : (convert 58 9 v).run Tryd.prog w = .ok (.string ⟨bs.toArray⟩) w := by
  rcases h.2 with ⟨rfl, h0⟩ | ⟨g, cap, cur, rfl, hrest⟩
  · have : bs = [] := List.eq_nil_of_length_eq_zero h0
    subst this
    exact run_convert_bytes_nil w 58 5 Tryd.underlying58 Tryd.underlying5 0 0 9 Tryd.underlying9
  · refine run_convert_bytes_back w 58 9 5 ⟨g, 0, none⟩ cap bs Tryd.underlying58 Tryd.underlying5 Tryd.underlying9 fun j hj => ?_
    exact World.ownsRow.cells h (g := g) rfl j _ (by simp [bcells, hj])

theorem At.grown {w w' : World} {b : Nat} {t n : Int} {s : ByteArray} {row : Option Nat} (h : At w b t n s) (hg : w.grownBy w' row) (hne : some b ≠ row) : At w' b t n s :=
  ⟨hg.cell h.1 hne, hg.cell h.2.1 hne, hg.cell h.2.2 hne⟩

/-- The same append as one step of a region whose order is left open. -/
theorem step_push {ops : Array Oper} {o : Oper} {a : Act} {w : World} {K : Act → World → Prop} {Q : Exit → Act → World → Prop} {E : Prop} {base g : Nat} {v : Value} {bs : List UInt8} {C : Array Value}
    (s x : Operand) (hgd : o.guard = none) (ho : o.op = .call { callee := .builtin .append, args := #[s, x], argTypes := #[58, 58] })
    (hs : a.eval s = v) (hown : OwnB w base v bs) (hb : base ≤ w.heap.size) (cs : List UInt8)
    (hx : a.eval x = .slice (some ⟨g, 0, none⟩) cs.length cs.length) (hsrc : w.heap[g]? = some (.cells C 5 (0, 0))) (hC : C.toList = bcells cs) (hlen : bs.length + cs.length ≤ 1000000000)
    (h : ∀ v' w', OwnB w' base v' (bs ++ cs) → Below base w w' → w.grownBy w' v.ownBlock → K (a.put o.dst v') w') :
    if Region.wanted o (yielded ops a.tmps) = true then Oper.wp Tryd.prog o a w K Q else E := by
  have hw : Region.wanted o (yielded ops a.tmps) = true := by simp [Region.wanted, hgd]
  rw [if_pos hw]
  obtain ⟨i0, hi, hz0, hz1, hz2⟩ := info_parts info_u8
  refine wp_append_own _ s x 58 ho base 5 i0 (.int .u8 0) 1 1 Tryd.underlying58 hi hz0 hz1 hz2 rfl (by decide) v bs.length (bcells bs) hs hown ⟨g, 0, none⟩ cs.length cs.length (bcells cs) hx (by rw [bcells_length, Nat.mul_one]) ?_ (fun u hu => bcells_one hu) ?_ ?_ hb ?_
  · intro j u hj
    rw [← hC] at hj
    have hadd : (⟨g, 0, none⟩ : Addr).add j = ⟨g, j, none⟩ := by unfold Addr.add; split <;> simp_all
    rw [hadd, cell_of_row _ g j C 5 (0, 0) hsrc]
    simpa using hj
  · unfold maxLen; omega
  · omega
  · intro v' w' h1 h2 _
    refine h v' w' ?_ ?_ h2
    · unfold OwnB
      rw [bcells_append, List.length_append]
      exact h1
    · exact Below.grown (Below.refl _ _) h2 hb fun k hk => (World.ownsRow.lt hown k hk).1

/-- A call of a Go function as one step of a region whose order is left open. -/
theorem step_call {ops : Array Oper} {o : Oper} {a : Act} {w : World} {K : Act → World → Prop} {Q : Exit → Act → World → Prop} {E : Prop} (f : Nat) (vs : Array Value)
    (hgd : o.guard = none) (hrun : (execOp a.eval o).run Tryd.prog w = .ok (.enter f vs) w)
    (h : Calls Tryd.prog f vs w fun e w' => ∃ v, e = .returned v ∧ K (a.put o.dst v) w') :
    if Region.wanted o (yielded ops a.tmps) = true then Oper.wp Tryd.prog o a w K Q else E := by
  have hw : Region.wanted o (yielded ops a.tmps) = true := by simp [Region.wanted, hgd]
  rw [if_pos hw]
  unfold Oper.wp
  rw [hrun]
  exact h.mono fun e w' ⟨v, he, hk⟩ => by subst he; exact hk

theorem OwnB.drew {w : World} {base : Nat} {v : Value} {bs : List UInt8} (h : OwnB w base v bs) : OwnB w.drew base v bs := h
/-- A slice that is written out. -/
theorem OwnB.lit (w : World) {base H : Nat} {C : Array Value} (cs : List UInt8) (hC : C.toList = bcells cs) (hb : base ≤ w.heap.size) (hH : w.heap.size = H) (hlen : cs.length ≤ 1000000000) :
    OwnB (w.alloc (.cells C 5)) base (.slice (some ⟨H, 0, none⟩) cs.length cs.length) cs := by
  subst hH
  have hs : C.size = cs.length := by rw [← Array.length_toList, hC, bcells_length]
  have := World.ownsRow_lit (base := base) (e := 5) (size := 1) w C cs.length hb (by unfold maxLen; omega) (by rw [hs, Nat.mul_one])
  rw [hC] at this
  exact this

/-- append(v, u...): u is nil, or a slice of the calls' own. -/
theorem wpList_cat {ops : Array Oper} {rest : List Oper} {o : Oper} {a : Act} {Q : Exit → Act → World → Prop} {w : World} {base base' : Nat} {v u : Value} {bs cs : List UInt8}
    (s x : Operand) (hgd : o.guard = none) (ho : o.op = .call { callee := .builtin .append, args := #[s, x], argTypes := #[58, 58] })
    (hs : a.eval s = v) (hx : a.eval x = u) (hown : OwnB w base v bs) (hsrc : OwnB w base' u cs) (hb : base ≤ w.heap.size) (hlen : bs.length + cs.length ≤ 1000000000)
    (h : ∀ v' w', OwnB w' base v' (bs ++ cs) → Below base w w' → wpList Tryd.prog ops Q rest (a.put o.dst v') w') :
    wpList Tryd.prog ops Q (o :: rest) a w := by
  obtain ⟨i0, hi, hz0, hz1, hz2⟩ := info_parts info_u8
  rcases hsrc.2 with ⟨rfl, h0⟩ | ⟨g, cap, cur, rfl, hrest⟩
  · have : cs = [] := List.eq_nil_of_length_eq_zero h0
    subst this
    refine wpList_append_own_none hgd s x 58 ho base 5 i0 1 Tryd.underlying58 hi v bs.length (bcells bs) hs hown hx ?_
    exact h v w (by rw [List.append_nil]; exact hown) (Below.refl _ _)
  · refine wpList_append_own _ hgd s x 58 ho base 5 i0 (.int .u8 0) 1 1 Tryd.underlying58 hi hz0 hz1 hz2 rfl (by decide) v bs.length (bcells bs) hs hown ⟨g, 0, none⟩ cs.length cap (bcells cs) hx (by rw [bcells_length, Nat.mul_one]) ?_ (fun u hu => bcells_one hu) ?_ ?_ hb ?_
    · intro j u hj
      exact World.ownsRow.cells hsrc (g := g) rfl j u hj
    · unfold maxLen; omega
    · omega
    · intro v' w' h1 h2 _
      refine h v' w' ?_ (Below.grown (Below.refl _ _) h2 hb fun k hk => (World.ownsRow.lt hown k hk).1)
      unfold OwnB
      rw [bcells_append, List.length_append]
      exact h1

end Go.Proofs.YtcnbbmgclphfdaaDoor
