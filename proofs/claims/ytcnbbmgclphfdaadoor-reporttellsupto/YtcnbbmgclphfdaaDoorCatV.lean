/- append(v, u...) of rows: u is a row that lies somewhere. -/
import Derived.Test.YtcnbbmgclphfdaaDoorOwnV
namespace Go.Proofs.YtcnbbmgclphfdaaDoor
open Go.RowKit Go.Sort

theorem Lies.cells {w : World} {b off : Nat} {n cap : Nat} {l : List Ent} (h : Lies w (.slice (some ⟨b, off, none⟩) n cap) l) : ∀ j u, (rowCells l)[j]? = some u → w.cell? ((⟨b, off, none⟩ : Addr).add j) = some u := by
  obtain ⟨ao, cap', he, hc⟩ := h
  simp only [Value.slice.injEq] at he
  obtain ⟨rfl, rfl, rfl⟩ := he
  intro j u hj
  have hlt : j < l.length * 3 := by
    have := (List.getElem?_eq_some_iff.1 hj).1
    rwa [rowCells_length] at this
  have hi : j / 3 < l.length := by omega
  obtain ⟨b', off', hb, h1, h2, h3⟩ := hc (j / 3) hi
  simp only [Option.some.injEq, Addr.mk.injEq, and_true] at hb
  obtain ⟨rfl, rfl⟩ := hb
  obtain ⟨g1, g2, g3⟩ := rowCells_get l (j / 3) hi
  have hadd : (⟨b, off, none⟩ : Addr).add j = ⟨b, off + j, none⟩ := by unfold Addr.add; split <;> simp_all
  rw [hadd]
  rcases (show j = j / 3 * 3 ∨ j = j / 3 * 3 + 1 ∨ j = j / 3 * 3 + 2 by omega) with e | e | e
  · rw [e] at hj ⊢
    rw [g1] at hj
    rw [← hj]
    exact h1
  · rw [e] at hj ⊢
    rw [g2] at hj
    rw [← hj]
    exact h2
  · rw [e] at hj ⊢
    rw [g3] at hj
    rw [← hj]
    exact h3

theorem run_append_none {P : Program} {w : World} (base : Nat) (t ty e : TypeId) (i : TypeInfo) (size c : Nat) (ht : P.underlying t = some (.slice e)) (hi : P.info? e = some i)
    (v : Value) (n : Nat) (xs : List Value) (hown : w.ownsRow base e size v n xs) :
    (Builtin.append_ #[t, t] ty #[v, .slice none 0 c]).run P w = .ok v w := by
  rcases hown.2 with ⟨rfl, rfl⟩ | ⟨g, cap, cur, rfl, _, _, hnc, _⟩
  · simp [Builtin.append_, run_underlying ht, sizeOf, typeInfo, hi, Builtin.lenOf, Builtin.firstCells]
  · simp [Builtin.append_, run_underlying ht, sizeOf, typeInfo, hi, Builtin.lenOf, Builtin.firstCells, hnc, storeCells]

theorem wpList_catV {ops : Array Oper} {rest : List Oper} {o : Oper} {a : Act} {Q : Exit → Act → World → Prop} {w : World} {base : Nat} {v u : Value} {l m : List Ent}
    (s x : Operand) (hgd : o.guard = none) (ho : o.op = .call { callee := .builtin .append, args := #[s, x], argTypes := #[32, 32] })
    (hs : a.eval s = v) (hx : a.eval x = u) (hown : OwnV w base v l) (hsrc : Lies w u m) (hb : base ≤ w.heap.size) (hlen : l.length + m.length ≤ 1000000000)
    (h : ∀ v' w', OwnV w' base v' (l ++ m) → Below base w w' → wpList Tryd.prog ops Q rest (a.put o.dst v') w') :
    wpList Tryd.prog ops Q (o :: rest) a w := by
  obtain ⟨i0, hi, hz0, hz1, hz2⟩ := info_parts info_V
  have hsrc' := hsrc
  obtain ⟨ao, cap, rfl, hc⟩ := hsrc
  cases ao with
  | none =>
    have hm : m = [] := by
      cases m with
      | nil => rfl
      | cons f m => obtain ⟨b, off, he, _⟩ := hc 0 (by simp); cases he
    subst hm
    refine wpList_plain hgd fun K hK => ?_
    have hrun := run_append_none (P := Tryd.prog) (w := w) base 32 o.type 28 i0 3 cap Tryd.underlying32 hi v l.length (rowCells l) hown
    unfold Oper.wp
    simp only [List.length_nil] at hx
    simp [execOp, ho, resolve, invoke, builtin, hs, hx, hrun, Result.andThen]
    exact hK _ _ (h v w (by rw [List.append_nil]; exact hown) (Below.refl _ _))
  | some ad =>
    refine wpList_append_own _ hgd s x 32 ho base 28 i0 _ 3 32 Tryd.underlying32 hi hz0 hz1 hz2 rfl (by decide) v l.length (rowCells l) hs hown ad m.length cap (rowCells m) hx (rowCells_length m) ?_ (fun u hu => rowCells_one hu) ?_ ?_ hb ?_
    · intro j y hj
      have hlt : j < m.length * 3 := by
        have := (List.getElem?_eq_some_iff.1 hj).1
        rwa [rowCells_length] at this
      obtain ⟨b, off, he, _⟩ := hc 0 (by omega)
      simp only [Option.some.injEq] at he
      subst he
      exact hsrc'.cells j y hj
    · unfold maxLen; omega
    · omega
    · intro v' w' h1 h2 _
      refine h v' w' ?_ (Below.grown (Below.refl _ _) h2 hb fun k hk => (World.ownsRow.lt hown k hk).1)
      unfold OwnV
      rw [rowCells_append, List.length_append]
      exact h1

/-- A row that is written out without values. -/
theorem OwnV.empty (w : World) {base H : Nat} (hb : base ≤ w.heap.size) (hH : w.heap.size = H) : OwnV (w.alloc (.cells #[] 28)) base (.slice (some ⟨H, 0, none⟩) 0 0) [] := by
  subst hH
  exact World.ownsRow_lit (base := base) (e := 28) (size := 3) w #[] 0 hb (by unfold maxLen; omega) rfl

end Go.Proofs.YtcnbbmgclphfdaaDoor
