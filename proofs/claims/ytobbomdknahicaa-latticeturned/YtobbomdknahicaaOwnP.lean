/- Slices of pairs of texts that the calls themselves make. -/
import Derived.Test.YtobbomdknahicaaCore
namespace Go.Proofs.Ytobbomdknahicaa
open Go.RowKit Go.Sort

def pcells (E : List (ByteArray × ByteArray)) : List Value := E.flatMap fun e => [.string e.1, .string e.2]
theorem pcells_append (E F : List (ByteArray × ByteArray)) : pcells (E ++ F) = pcells E ++ pcells F := by simp [pcells]
theorem pcells_length (E : List (ByteArray × ByteArray)) : (pcells E).length = E.length * 2 := by
  induction E with
  | nil => rfl
  | cons e l ih =>
    have : pcells (e :: l) = [.string e.1, .string e.2] ++ pcells l := rfl
    rw [this, List.length_append, ih]
    simp; omega
theorem pcells_get : ∀ (E : List (ByteArray × ByteArray)) (i : Nat) (h : i < E.length), (pcells E)[i * 2]? = some (.string E[i].1) ∧ (pcells E)[i * 2 + 1]? = some (.string E[i].2)
  | e :: l, 0, _ => ⟨rfl, rfl⟩
  | e :: l, i + 1, h => by
    obtain ⟨h1, h2⟩ := pcells_get l i (by simpa using h)
    have hc : pcells (e :: l) = .string e.1 :: .string e.2 :: pcells l := rfl
    have e1 : (i + 1) * 2 = i * 2 + 1 + 1 := by omega
    rw [hc, e1]
    refine ⟨?_, ?_⟩
    · simpa using h1
    · rw [show i * 2 + 1 + 1 + 1 = (i * 2 + 1) + 1 + 1 from rfl]; simpa using h2
theorem pcells_one {u : Value} {E : List (ByteArray × ByteArray)} (h : u ∈ pcells E) : u.oneCell' = true := by
  simp only [pcells, List.mem_flatMap, List.mem_cons, List.not_mem_nil, or_false] at h
  obtain ⟨e, _, rfl | rfl⟩ := h <;> rfl

theorem info_P : (Try.prog.info? 47).map (fun i => (i.zero, i.size, i.bytes)) = some (some (.agg #[.string E0, .string E0]), 2, 32) := by kernel_rfl

/-- v is a slice of pairs of the calls' own, in a block from base on, and holds E. -/
def OwnP (w : World) (base : Nat) (v : Value) (E : List (ByteArray × ByteArray)) : Prop := w.ownsRow base 47 2 v E.length (pcells E)
theorem OwnP.nil (w : World) (base : Nat) : OwnP w base (.slice none 0 0) [] := World.ownsRow_nil _ _ _ _
theorem OwnP.alloc {w : World} {base : Nat} {v : Value} {E : List (ByteArray × ByteArray)} (h : OwnP w base v E) (o : Obj) : OwnP (w.alloc o) base v E := World.ownsRow.alloc h o
theorem OwnP.keep {w w' : World} {base : Nat} {v : Value} {E : List (ByteArray × ByteArray)} (h : OwnP w base v E) (k : Below w.heap.size w w') : OwnP w' base v E :=
  World.ownsRow.kept h (grownBy_of_below k) (by cases hv : v.ownBlock <;> simp)
theorem OwnP.drew {w : World} {base : Nat} {v : Value} {E : List (ByteArray × ByteArray)} (h : OwnP w base v E) : OwnP w.drew base v E := h
theorem OwnP.shape {w : World} {base : Nat} {v : Value} {E : List (ByteArray × ByteArray)} (h : OwnP w base v E) : ∃ ao cap, v = .slice ao E.length cap := by
  rcases h.2 with ⟨rfl, h0⟩ | ⟨g, cap, cur, rfl, _⟩
  · exact ⟨none, 0, by rw [h0]⟩
  · exact ⟨_, cap, rfl⟩
theorem OwnP.shapeN {w : World} {base n : Nat} {v : Value} {E : List (ByteArray × ByteArray)} (h : OwnP w base v E) (hn : E.length = n) : ∃ ao cap, v = .slice ao n cap := by
  subst hn; exact h.shape
theorem OwnP.lies {w : World} {base : Nat} {v : Value} {E : List (ByteArray × ByteArray)} (h : OwnP w base v E) : LiesP w v E := by
  rcases h.2 with ⟨rfl, h0⟩ | ⟨g, cap, cur, rfl, h3⟩
  · exact ⟨none, 0, by rw [h0], ⟨fun _ => rfl, by omega⟩, fun i hi => by omega⟩
  · refine ⟨_, cap, rfl, ⟨nofun, h3.2.2.1⟩, fun i hi => ⟨g, 0, rfl, ?_⟩⟩
    obtain ⟨h1, h2⟩ := pcells_get E i hi
    have hadd : ∀ j, (⟨g, 0, none⟩ : Addr).add j = ⟨g, 0 + j, none⟩ := fun j => by unfold Addr.add; split <;> simp_all
    refine ⟨?_, ?_⟩
    · rw [← hadd]; exact World.ownsRow.cells h (g := g) rfl _ _ h1
    · rw [Nat.add_assoc, ← hadd]; exact World.ownsRow.cells h (g := g) rfl _ _ h2
theorem OwnP.lit (w : World) {base H : Nat} {C : Array Value} (E : List (ByteArray × ByteArray)) (hC : C.toList = pcells E) (hb : base ≤ w.heap.size) (hH : w.heap.size = H) (hlen : E.length ≤ 1000000000) :
    OwnP (w.alloc (.cells C 47)) base (.slice (some ⟨H, 0, none⟩) E.length E.length) E := by
  subst hH
  have hs : C.size = E.length * 2 := by rw [← Array.length_toList, hC, pcells_length]
  have := World.ownsRow_lit (base := base) (e := 47) (size := 2) w C E.length hb (by unfold maxLen; omega) hs
  rw [hC] at this
  exact this
theorem LiesP.cells {w : World} {b off : Nat} {n cap : Nat} {E : List (ByteArray × ByteArray)} (h : LiesP w (.slice (some ⟨b, off, none⟩) n cap) E) : ∀ j u, (pcells E)[j]? = some u → w.cell? ((⟨b, off, none⟩ : Addr).add j) = some u := by
  obtain ⟨ao, cap', he, _, hc⟩ := h
  simp only [Value.slice.injEq] at he
  obtain ⟨rfl, rfl, rfl⟩ := he
  intro j u hj
  have hlt : j < E.length * 2 := by
    have := (List.getElem?_eq_some_iff.1 hj).1
    rwa [pcells_length] at this
  have hi : j / 2 < E.length := by omega
  obtain ⟨b', off', hb, h1, h2⟩ := hc (j / 2) hi
  simp only [Option.some.injEq, Addr.mk.injEq, and_true] at hb
  obtain ⟨rfl, rfl⟩ := hb
  obtain ⟨g1, g2⟩ := pcells_get E (j / 2) hi
  have hadd : (⟨b, off, none⟩ : Addr).add j = ⟨b, off + j, none⟩ := by unfold Addr.add; split <;> simp_all
  rw [hadd]
  rcases (show j = j / 2 * 2 ∨ j = j / 2 * 2 + 1 by omega) with e | e
  · rw [e] at hj ⊢
    rw [g1] at hj
    rw [← hj]
    exact h1
  · rw [e] at hj ⊢
    rw [g2] at hj
    rw [← hj]
    exact h2

/-- append(v, u...): u lies in memory. -/
theorem wp_catP {o : Oper} {a : Act} {K : Act → World → Prop} {Q : Exit → Act → World → Prop} {w : World} {base : Nat} {v u : Value} {E F : List (ByteArray × ByteArray)}
    (s x : Operand) (ho : o.op = .call { callee := .builtin .append, args := #[s, x], argTypes := #[23, 23] })
    (hs : a.eval s = v) (hx : a.eval x = u) (hown : OwnP w base v E) (hsrc : LiesP w u F) (hb : base ≤ w.heap.size) (hlen : E.length + F.length ≤ 1000000000)
    (h : ∀ v' w', OwnP w' base v' (E ++ F) → Below base w w' → w.grownBy w' v.ownBlock → K (a.put o.dst v') w') :
    Oper.wp Try.prog o a w K Q := by
  obtain ⟨i0, hi, hz0, hz1, hz2⟩ := info_parts info_P
  have hsrc' := hsrc
  obtain ⟨ao, cap, rfl, hn, hc⟩ := hsrc
  cases ao with
  | none =>
    have hm : F = [] := by
      cases F with
      | nil => rfl
      | cons f m => obtain ⟨b, off, he, _⟩ := hc 0 (by simp); cases he
    subst hm
    rw [hn.1 rfl] at hx
    have hrun := run_append_owned_none (P := Try.prog) (w := w) base 23 o.type 47 i0 2 Try.underlying23 hi v E.length (pcells E) hown
    unfold Oper.wp
    simp only [List.length_nil] at hx
    simp [execOp, ho, resolve, invoke, builtin, hs, hx, hrun, Result.andThen]
    exact h v w (by rw [List.append_nil]; exact hown) (Below.refl _ _) ⟨rfl, rfl, rfl, Nat.le_refl _, fun _ _ _ => rfl⟩
  | some ad =>
    refine wp_append_own _ s x 23 ho base 47 i0 _ 2 32 Try.underlying23 hi hz0 hz1 hz2 rfl (by decide) v E.length (pcells E) hs hown ad F.length cap (pcells F) hx (pcells_length F) ?_ (fun u hu => pcells_one hu) ?_ ?_ hb ?_
    · intro j y hj
      have hlt : j < F.length * 2 := by
        have := (List.getElem?_eq_some_iff.1 hj).1
        rwa [pcells_length] at this
      obtain ⟨b, off, he, _⟩ := hc 0 (by omega)
      simp only [Option.some.injEq] at he
      subst he
      exact hsrc'.cells j y hj
    · unfold maxLen; omega
    · omega
    · intro v' w' h1 h2 _
      refine h v' w' ?_ (Below.grown (Below.refl _ _) h2 hb fun k hk => (World.ownsRow.lt hown k hk).1) h2
      unfold OwnP
      rw [pcells_append, List.length_append]
      exact h1
theorem wpList_catP {ops : Array Oper} {rest : List Oper} {o : Oper} {a : Act} {Q : Exit → Act → World → Prop} {w : World} {base : Nat} {v u : Value} {E F : List (ByteArray × ByteArray)}
    (s x : Operand) (hgd : o.guard = none) (ho : o.op = .call { callee := .builtin .append, args := #[s, x], argTypes := #[23, 23] })
    (hs : a.eval s = v) (hx : a.eval x = u) (hown : OwnP w base v E) (hsrc : LiesP w u F) (hb : base ≤ w.heap.size) (hlen : E.length + F.length ≤ 1000000000)
    (h : ∀ v' w', OwnP w' base v' (E ++ F) → Below base w w' → wpList Try.prog ops Q rest (a.put o.dst v') w') :
    wpList Try.prog ops Q (o :: rest) a w :=
  wpList_plain hgd fun _ hK => wp_catP s x ho hs hx hown hsrc hb hlen fun v' w' h1 h2 _ => hK _ _ (h v' w' h1 h2)
/-- One append of a pair that lies in a new block. -/
theorem wpList_pushP {ops : Array Oper} {rest : List Oper} {o : Oper} {a : Act} {Q : Exit → Act → World → Prop} {w : World} {base H : Nat} {v : Value} {E : List (ByteArray × ByteArray)} {lo hi : ByteArray}
    (s x : Operand) (hgd : o.guard = none) (ho : o.op = .call { callee := .builtin .append, args := #[s, x], argTypes := #[23, 23] })
    (hs : a.eval s = v) (hx : a.eval x = .slice (some ⟨H, 0, none⟩) 1 1) (hH : w.heap.size = H) (hown : OwnP w base v E) (hb : base ≤ w.heap.size) (hlen : E.length + 1 ≤ 1000000000)
    (h : ∀ v' w', OwnP w' base v' (E ++ [(lo, hi)]) → Below base w w' → wpList Try.prog ops Q rest (a.put o.dst v') w') :
    wpList Try.prog ops Q (o :: rest) a (w.alloc (.cells #[.string lo, .string hi] 47)) := by
  refine wpList_catP (E := E) (F := [(lo, hi)]) s x hgd ho hs hx (hown.alloc _) (OwnP.lit w [(lo, hi)] rfl (base := base) hb hH (by simp)).lies (by simp; omega) hlen fun v' w' h1 h2 => h v' w' h1 (((Below.refl _ _).alloc hb _).trans h2)

end Go.Proofs.Ytobbomdknahicaa
