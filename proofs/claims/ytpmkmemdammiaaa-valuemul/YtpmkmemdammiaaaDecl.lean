/- Regions whose order is left open and that declare a variable of the type Value: the variable lies in a new block that holds what was handed over; nothing that was there has turned. -/
import Derived.Test.YtpmkmemdammiaaaLogic
import Derived.Test.YtpmkmemdammiaaaGrow
namespace Go.Proofs.Ytpmkmemdammiaaa
open Go.RowKit Go.Sort

abbrev zeroV : Obj := .cells #[.int .i64 0, .int .i64 0, .string E0] 23
abbrev ptr (q : Nat) : Value := .pointer (some ⟨q, 0, none⟩)
/-- The three stores of a value. -/
def set3 (W : World) (q : Nat) (t n : Int) (s : ByteArray) : World := ((W.setCell ⟨q, 0, none⟩ (.int .i64 t)).setCell ⟨q, 1, none⟩ (.int .i64 n)).setCell ⟨q, 2, none⟩ (.string s)

theorem cell_of_heap {W : World} {q : Nat} {x y z : Value} (h : W.heap[q]? = some (.cells #[x, y, z] 23)) :
    (W.cell? ⟨q, 0, none⟩ = some x ∧ W.cell? ⟨q, 1, none⟩ = some y ∧ W.cell? ⟨q, 2, none⟩ = some z) ∧ (W.frozen? ⟨q, 0, none⟩ = false ∧ W.frozen? ⟨q, 1, none⟩ = false ∧ W.frozen? ⟨q, 2, none⟩ = false) := by
  simp [World.cell?, World.frozen?, h]

theorem set3_below {w W : World} {q : Nat} {t n : Int} {s : ByteArray} (h : Below w.heap.size w W) (hq : w.heap.size ≤ q) : Below w.heap.size w (set3 W q t n s) := bset3 h hq _ _ _

theorem set3_at {W : World} {q : Nat} {x y z : Value} {t n : Int} {s : ByteArray} (h : W.heap[q]? = some (.cells #[x, y, z] 23)) : At (set3 W q t n s) q t n s := by
  obtain ⟨hc, hf⟩ := cell_of_heap h
  unfold set3 At
  simp [go_sem, hc]

theorem wpT_decl {ops : Array Oper} {Q : Act → World → Prop} {a : Act} {w : World} {i j : Nat} {oi oj : Oper} {rest : List Nat} {d : Tmp} {src : Operand} (t n : Int) (s : ByteArray)
    (hi : ops[i]? = some oi) (hj : ops[j]? = some oj) (hoi : oi.op = .alloc 23) (hdi : oi.dst = some d) (hgi : oi.guard = none) (hoj : oj.op = .store 23 (.tmp d) src) (hdj : oj.dst = none) (hgj : oj.guard = none)
    (hd : ∀ q, (a.put (some d) (ptr q)).eval (.tmp d) = ptr q) (hv : ∀ q, (a.put (some d) (ptr q)).eval src = V t n s)
    (h : ∀ q, wpT Try.prog ops (fun W => Below w.heap.size w W) w.heap.size Q rest (a.put (some d) (ptr q)) (fun W => Below w.heap.size w W ∧ At W q t n s)) :
    wpT Try.prog ops (fun W => Below w.heap.size w W) w.heap.size Q (i :: j :: rest) a (fun W => Below w.heap.size w W) := by
  refine wpT_new zeroV hi (by simp [Region.wanted, hgi]) (fun W => ?_) ?_
  · simp only [execOp, hoi]
    go_simp
  · intro q hq
    rw [hdi]
    refine wpT_hard (fun W => set3 W q t n s) hj (by simp [Region.wanted, hgj]) ?_ ?_
    · rintro W ⟨hW, hWq⟩
      refine ⟨?_, set3_below hW hq⟩
      simp only [execOp, hoj, hd, hv]
      obtain ⟨hc, hf⟩ := cell_of_heap hWq
      unfold set3
      go_simp
    · rw [hdj]
      refine wpT_sub rest _ _ _ ?_ (h q)
      rintro W' ⟨W, ⟨hW, hWq⟩, hb⟩
      exact ⟨(set3_below hW hq).trans (hb.mono (set3_below hW hq).size), (set3_at hWq).keep hb⟩

end Go.Proofs.Ytpmkmemdammiaaa
