/- A map of texts to numbers that the calls themselves make: as a function; what a look-up yields, and what a store makes of it. -/
import Derived.Test.YtalfeggddfpgeaaDoorCore2
import Derived.Maps.Own
import Derived.Maps.OwnSet
import Derived.Maps.Views
namespace Go.Proofs.YtalfeggddfpgeaaDoor
open Go.RowKit Go.Sort

/-- Block b is a map of texts to numbers, of at most n entries, and f says what it holds. -/
def MapS (w : World) (b n : Nat) (f : ByteArray → Option Int) : Prop :=
  ∃ D : DataW Unit, w.ownsMap Tryd.prog 9 (plainElem Tryd.prog 3) b n D ∧
    ∀ s : ByteArray, s.size ≤ maxLen → Maps.has D (.string s.data.toList) = (f s).isSome ∧ D.atKey (.string s.data.toList) (.lit (.int .i64 0)) = .lit (.int .i64 ((f s).getD 0))
theorem lawS : Maps.Keyed Tryd.prog 9 := Maps.string_keyed Tryd.underlying9
theorem zeroI (w : World) : (zeroValue 3).run Tryd.prog w = .ok (.int .i64 0) w := by simp [go_sem]
theorem MapS.made (w : World) : MapS (w.alloc (.map #[] 0)) w.heap.size 0 fun _ => none :=
  ⟨.map [], World.ownsMap_made w _ _ _, fun _ _ => ⟨rfl, rfl⟩⟩
theorem MapS.keep {w w' : World} {b n : Nat} {f : ByteArray → Option Int} (h : MapS w b n f) (k : Below w.heap.size w w') : MapS w' b n f := by
  obtain ⟨D, h2, h3⟩ := h
  exact ⟨D, h2.kept (grownBy_of_below k) (by simp), h3⟩
theorem MapS.grown {w w' : World} {b n : Nat} {f : ByteArray → Option Int} {row : Option Nat} (h : MapS w b n f) (hg : w.grownBy w' row) (hne : some b ≠ row) : MapS w' b n f := by
  obtain ⟨D, h2, h3⟩ := h
  exact ⟨D, h2.kept hg hne, h3⟩
theorem MapS.lt {w : World} {b n : Nat} {f : ByteArray → Option Int} (h : MapS w b n f) : b < w.heap.size := by
  obtain ⟨D, h2, h3⟩ := h
  exact h2.lt
/-- v, ok := m[s] -/
theorem MapS.lookOk {w : World} {b n : Nat} {f : ByteArray → Option Int} (h : MapS w b n f) {s : ByteArray} (hs : s.size ≤ maxLen) :
    (Instr.lookup 52 (.map (some b)) (.string s) true).run Tryd.prog w = .ok (.tuple #[.int .i64 ((f s).getD 0), .bool (f s).isSome]) w := by
  obtain ⟨D, h2, h3⟩ := h
  obtain ⟨v, ps, hrun, hv⟩ := h2.look_ok lawS Tryd.underlying52 (zeroI w) (plainElem_int (H := Unit) Tryd.underlying3 (by decide)) (WideMaps.keyOf_string_mk Tryd.underlying9 hs)
  obtain ⟨c, rfl, hc, _⟩ := plainElem_int_inv Tryd.underlying3 hv
  obtain ⟨g1, g2⟩ := h3 s hs
  simp only [Prod.mk.injEq] at hc
  rw [g2] at hc
  have : (f s).getD 0 = c := by simpa using hc.1
  rw [hrun, g1, this]
/-- m[s] -/
theorem MapS.look {w : World} {b n : Nat} {f : ByteArray → Option Int} (h : MapS w b n f) {s : ByteArray} (hs : s.size ≤ maxLen) :
    (Instr.lookup 52 (.map (some b)) (.string s) false).run Tryd.prog w = .ok (.int .i64 ((f s).getD 0)) w := by
  obtain ⟨D, h2, h3⟩ := h
  obtain ⟨c, hrun, hc, _⟩ := h2.lookup_int lawS Tryd.underlying52 Tryd.underlying3 (zeroI w) (WideMaps.keyOf_string_mk Tryd.underlying9 hs)
  obtain ⟨_, g2⟩ := h3 s hs
  rw [g2] at hc
  have : (f s).getD 0 = c := by simpa using hc
  rw [hrun, this]
/-- m[s] = c -/
theorem wpList_putS {ops : Array Oper} {rest : List Oper} {o : Oper} {a : Act} {Q : Exit → Act → World → Prop} {w : World} {b n : Nat} {f : ByteArray → Option Int}
    (m x v : Operand) (hgd : o.guard = none) (hop : o.op = Op.mapUpdate 52 m x v) {s : ByteArray} {c : Int} (hm : a.eval m = .map (some b)) (hx : a.eval x = .string s) (hv : a.eval v = .int .i64 c)
    (hown : MapS w b n f) (hn : n ≤ 1000000) (hs : s.size ≤ maxLen) (hc : inR c)
    (h : ∀ w', MapS w' b (n + 1) (fun z => if z = s then some c else f z) → w.grownBy w' (some b) → wpList Tryd.prog ops Q rest (a.put o.dst undef) w') :
    wpList Tryd.prog ops Q (o :: rest) a w := by
  obtain ⟨D, h2, h3⟩ := hown
  have hkey := WideMaps.keyOf_string_mk (P := Tryd.prog) Tryd.underlying9 hs
  have hw : (Lit.int .i64 c).wf = true := by
    unfold inR at hc
    simp [Lit.wf, IntKind.min, IntKind.max, IntKind.signed, IntKind.bits]
    omega
  refine wpList_mapUpdate_own w hgd m x v 52 hop 9 3 lawS Tryd.underlying52 (plainElem Tryd.prog 3) b n D hm h2 (by unfold maxLen; omega) _ _ _ hx hv hkey (.lit (.int .i64 c)) [] (plainElem_int Tryd.underlying3 hw) ?_
  intro w' g1 g2
  refine h w' ⟨_, g1, fun z hz => ?_⟩ g2
  by_cases e : z = s
  · subst e
    simp only [if_true]
    exact ⟨Maps.has_put_same h2.isMap (Maps.Keyed.key lawS hkey) _, Maps.atKey_put_same h2.isMap (Maps.Keyed.key lawS hkey) _ _⟩
  · have hne : Lit.string z.data.toList ≠ Lit.string s.data.toList := fun h => e (by
      have h' : z.data.toList = s.data.toList := by simpa using h
      exact toList_inj (by rw [ByteArray.toList_eq, ByteArray.toList_eq]; exact h'))
    simp only [if_neg e]
    rw [Maps.has_put_other hne, Maps.atKey_put_other hne]
    exact h3 z hz

end Go.Proofs.YtalfeggddfpgeaaDoor
