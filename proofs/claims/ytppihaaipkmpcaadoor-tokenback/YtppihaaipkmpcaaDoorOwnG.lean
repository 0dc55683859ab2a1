/- Slices of structs: how they lie in memory, slices that the calls themselves make, and what an append makes of them; for any struct whose fields are one cell each. -/
import Derived.Test.YtppihaaipkmpcaaDoorCore
namespace Go.Proofs.YtppihaaipkmpcaaDoor
open Go.RowKit Go.Sort

section
variable {α : Type} {m : Nat} {enc : α → List Value}
def gcells (enc : α → List Value) (L : List α) : List Value := L.flatMap enc
theorem gcells_append (L K : List α) : gcells enc (L ++ K) = gcells enc L ++ gcells enc K := by simp [gcells]
theorem gcells_length (he : ∀ x, (enc x).length = m) (L : List α) : (gcells enc L).length = L.length * m := by
  induction L with
  | nil => simp [gcells]
  | cons e l ih =>
    have : gcells enc (e :: l) = enc e ++ gcells enc l := rfl
    rw [this, List.length_append, ih, he, List.length_cons, Nat.succ_mul, Nat.add_comm]
theorem gcells_get (he : ∀ x, (enc x).length = m) : ∀ (L : List α) (i : Nat) (h : i < L.length) (j : Nat), j < m → (gcells enc L)[i * m + j]? = (enc L[i])[j]?
  | e :: l, 0, _, j, hj => by
    have hc : gcells enc (e :: l) = enc e ++ gcells enc l := rfl
    rw [hc, Nat.zero_mul, Nat.zero_add, List.getElem?_append_left (by rw [he]; exact hj)]
    rfl
  | e :: l, i + 1, h, j, hj => by
    have hc : gcells enc (e :: l) = enc e ++ gcells enc l := rfl
    have := gcells_get he l i (by simpa using h) j hj
    have e1 : (i + 1) * m + j = m + (i * m + j) := by rw [Nat.succ_mul]; omega
    rw [hc, e1, List.getElem?_append_right (by rw [he]; omega), he, Nat.add_sub_cancel_left, this]
    rfl
/-- v is a slice of structs and holds L. -/
def LiesG (m : Nat) (enc : α → List Value) (w : World) (v : Value) (L : List α) : Prop :=
  ∃ ao cap, v = .slice ao L.length cap ∧ ((ao = none → cap = 0) ∧ L.length ≤ cap) ∧ ∀ i (h : i < L.length), ∃ b off, ao = some ⟨b, off, none⟩ ∧ ∀ j u, (enc L[i])[j]? = some u → w.cell? ⟨b, off + i * m + j, none⟩ = some u
theorem LiesG.keep {w w' : World} {v : Value} {L : List α} (h : LiesG m enc w v L) (k : Below w.heap.size w w') : LiesG m enc w' v L := by
  obtain ⟨ao, cap, rfl, hn, hc⟩ := h
  refine ⟨ao, cap, rfl, hn, fun i hi => ?_⟩
  obtain ⟨b, off, h0, h1⟩ := hc i hi
  exact ⟨b, off, h0, fun j u hj => cell_keep (h1 j u hj) k⟩
theorem LiesG.nil (w : World) : LiesG m enc w (.slice none 0 0) [] := ⟨none, 0, rfl, ⟨fun _ => rfl, Nat.le_refl _⟩, fun i hi => absurd hi (by simp)⟩
/-- v is such a slice of the calls' own, in a block from base on. -/
def OwnG (m : Nat) (enc : α → List Value) (w : World) (base : Nat) (e : TypeId) (v : Value) (L : List α) : Prop := w.ownsRow base e m v L.length (gcells enc L)
theorem OwnG.nil (w : World) (base : Nat) (e : TypeId) : OwnG m enc w base e (.slice none 0 0) [] := World.ownsRow_nil _ _ _ _
theorem OwnG.alloc {w : World} {base : Nat} {e : TypeId} {v : Value} {L : List α} (h : OwnG m enc w base e v L) (o : Obj) : OwnG m enc (w.alloc o) base e v L := World.ownsRow.alloc h o
theorem OwnG.keep {w w' : World} {base : Nat} {e : TypeId} {v : Value} {L : List α} (h : OwnG m enc w base e v L) (k : Below w.heap.size w w') : OwnG m enc w' base e v L :=
  World.ownsRow.kept h (grownBy_of_below k) (by cases hv : v.ownBlock <;> simp)
theorem OwnG.drew {w : World} {base : Nat} {e : TypeId} {v : Value} {L : List α} (h : OwnG m enc w base e v L) : OwnG m enc w.drew base e v L := h
theorem OwnG.mono {w : World} {base base' : Nat} {e : TypeId} {v : Value} {L : List α} (h : OwnG m enc w base e v L) (hb : base' ≤ base) : OwnG m enc w base' e v L := by
  refine ⟨h.1, ?_⟩
  rcases h.2 with h | ⟨g, cap, cur, h1, h2, h3⟩
  · exact .inl h
  · exact .inr ⟨g, cap, cur, h1, Nat.le_trans hb h2, h3⟩
theorem OwnG.shapeN {w : World} {base n : Nat} {e : TypeId} {v : Value} {L : List α} (h : OwnG m enc w base e v L) (hn : L.length = n) : ∃ ao cap, v = .slice ao n cap := by
  subst hn
  rcases h.2 with ⟨rfl, h0⟩ | ⟨g, cap, cur, rfl, _⟩
  · exact ⟨none, 0, by rw [h0]⟩
  · exact ⟨_, cap, rfl⟩
theorem OwnG.lies {w : World} {base : Nat} {e : TypeId} {v : Value} {L : List α} (he : ∀ x, (enc x).length = m) (h : OwnG m enc w base e v L) : LiesG m enc w v L := by
  rcases h.2 with ⟨rfl, h0⟩ | ⟨g, cap, cur, rfl, h3⟩
  · exact ⟨none, 0, by rw [h0], ⟨fun _ => rfl, by omega⟩, fun i hi => by omega⟩
  · refine ⟨_, cap, rfl, ⟨nofun, h3.2.2.1⟩, fun i hi => ⟨g, 0, rfl, fun j u hj => ?_⟩⟩
    have hjm : j < m := by
      have := (List.getElem?_eq_some_iff.1 hj).1
      rwa [he] at this
    have hg := gcells_get he L i hi j hjm
    rw [hj] at hg
    have hadd : ∀ j, (⟨g, 0, none⟩ : Addr).add j = ⟨g, 0 + j, none⟩ := fun j => by unfold Addr.add; split <;> simp_all
    rw [Nat.add_assoc, ← hadd]
    exact World.ownsRow.cells h (g := g) rfl _ _ hg
theorem OwnG.lit (he : ∀ x, (enc x).length = m) (w : World) {base H : Nat} {e : TypeId} {C : Array Value} (L : List α) (hC : C.toList = gcells enc L) (hb : base ≤ w.heap.size) (hH : w.heap.size = H) (hlen : L.length ≤ 1000000000) :
    OwnG m enc (w.alloc (.cells C e)) base e (.slice (some ⟨H, 0, none⟩) L.length L.length) L := by
  subst hH
  have hs : C.size = L.length * m := by rw [← Array.length_toList, hC, gcells_length he]
  have := World.ownsRow_lit (base := base) (e := e) (size := m) w C L.length hb (by unfold maxLen; omega) hs
  rw [hC] at this
  exact this
theorem LiesG.cells (he : ∀ x, (enc x).length = m) (hm : 0 < m) {w : World} {b off : Nat} {n cap : Nat} {L : List α} (h : LiesG m enc w (.slice (some ⟨b, off, none⟩) n cap) L) : ∀ j u, (gcells enc L)[j]? = some u → w.cell? ((⟨b, off, none⟩ : Addr).add j) = some u := by
  obtain ⟨ao, cap', hv, _, hc⟩ := h
  simp only [Value.slice.injEq] at hv
  obtain ⟨rfl, rfl, rfl⟩ := hv
  intro j u hj
  have hlt : j < L.length * m := by
    have := (List.getElem?_eq_some_iff.1 hj).1
    rwa [gcells_length he] at this
  have hi : j / m < L.length := Nat.div_lt_of_lt_mul (by rw [Nat.mul_comm]; exact hlt)
  obtain ⟨b', off', hb, h1⟩ := hc (j / m) hi
  simp only [Option.some.injEq, Addr.mk.injEq, and_true] at hb
  obtain ⟨rfl, rfl⟩ := hb
  have hjm : j % m < m := Nat.mod_lt _ hm
  have hg := gcells_get he L (j / m) hi (j % m) hjm
  have hdm : j / m * m + j % m = j := Nat.div_add_mod' j m
  rw [hdm, hj] at hg
  have hadd : (⟨b, off, none⟩ : Addr).add j = ⟨b, off + j, none⟩ := by unfold Addr.add; split <;> simp_all
  have := h1 (j % m) u hg.symm
  rw [Nat.add_assoc, hdm] at this
  rw [hadd]
  exact this
theorem gcells_one (h1 : ∀ x, ∀ u ∈ enc x, u.oneCell' = true) {u : Value} {L : List α} (h : u ∈ gcells enc L) : u.oneCell' = true := by
  simp only [gcells, List.mem_flatMap] at h
  obtain ⟨x, _, hx⟩ := h
  exact h1 x u hx

/-- append(v, u...): u lies in memory. -/
theorem wp_catG (he : ∀ x, (enc x).length = m) (hm : 0 < m) (h1c : ∀ x, ∀ u ∈ enc x, u.oneCell' = true) {o : Oper} {a : Act} {K : Act → World → Prop} {Q : Exit → Act → World → Prop} {w : World} {base : Nat} {t e : TypeId} {z : Value} {bytes : Nat} {v u : Value} {L M : List α}
    (hinfo : (Tryd.prog.info? e).map (fun i => (i.zero, i.size, i.bytes)) = some (some z, m, bytes)) (ht : Tryd.prog.underlying t = some (.slice e)) (hzc : z.cells.size = m) (hby : bytes ≤ 4096)
    (s x : Operand) (ho : o.op = .call { callee := .builtin .append, args := #[s, x], argTypes := #[t, t] })
    (hs : a.eval s = v) (hx : a.eval x = u) (hown : OwnG m enc w base e v L) (hsrc : LiesG m enc w u M) (hb : base ≤ w.heap.size) (hlen : L.length + M.length ≤ 10000000)
    (h : ∀ v' w', OwnG m enc w' base e v' (L ++ M) → Below base w w' → w.grownBy w' v.ownBlock → K (a.put o.dst v') w') :
    Oper.wp Tryd.prog o a w K Q := by
  obtain ⟨i0, hi, hz0, hz1, hz2⟩ := info_parts hinfo
  have hsrc' := hsrc
  obtain ⟨ao, cap, rfl, hn, hc⟩ := hsrc
  cases ao with
  | none =>
    have hm : M = [] := by
      cases M with
      | nil => rfl
      | cons f m => obtain ⟨b, off, he, _⟩ := hc 0 (by simp); cases he
    subst hm
    rw [hn.1 rfl] at hx
    have hrun := run_append_owned_none (P := Tryd.prog) (w := w) base t o.type e i0 m ht hi v L.length (gcells enc L) hown
    unfold Oper.wp
    simp only [List.length_nil] at hx
    simp [execOp, ho, resolve, invoke, builtin, hs, hx, hrun, Result.andThen]
    exact h v w (by rw [List.append_nil]; exact hown) (Below.refl _ _) ⟨rfl, rfl, rfl, Nat.le_refl _, fun _ _ _ => rfl⟩
  | some ad =>
    refine wp_append_own _ s x t ho base e i0 z m bytes ht hi hz0 hz1 hz2 hzc hm v L.length (gcells enc L) hs hown ad M.length cap (gcells enc M) hx (gcells_length he M) ?_ (fun u hu => gcells_one h1c hu) ?_ ?_ hb ?_
    · intro j y hj
      have hlt : j < M.length * m := by
        have := (List.getElem?_eq_some_iff.1 hj).1
        rwa [gcells_length he] at this
      have hpos : 0 < M.length := by
        rcases Nat.eq_zero_or_pos M.length with h0 | h0
        · rw [h0, Nat.zero_mul] at hlt; omega
        · exact h0
      obtain ⟨b, off, had, _⟩ := hc 0 hpos
      simp only [Option.some.injEq] at had
      subst had
      exact hsrc'.cells he hm j y hj
    · unfold maxLen; omega
    · exact Nat.le_trans (Nat.mul_le_mul hlen hby) (by decide)
    · intro v' w' h1 h2 _
      refine h v' w' ?_ (Below.grown (Below.refl _ _) h2 hb fun k hk => (World.ownsRow.lt hown k hk).1) h2
      unfold OwnG
      rw [gcells_append, List.length_append]
      exact h1
theorem wpList_catG (he : ∀ x, (enc x).length = m) (hm : 0 < m) (h1c : ∀ x, ∀ u ∈ enc x, u.oneCell' = true) {ops : Array Oper} {rest : List Oper} {o : Oper} {a : Act} {Q : Exit → Act → World → Prop} {w : World} {base : Nat} {t e : TypeId} {z : Value} {bytes : Nat} {v u : Value} {L M : List α}
    (hinfo : (Tryd.prog.info? e).map (fun i => (i.zero, i.size, i.bytes)) = some (some z, m, bytes)) (ht : Tryd.prog.underlying t = some (.slice e)) (hzc : z.cells.size = m) (hby : bytes ≤ 4096)
    (s x : Operand) (hgd : o.guard = none) (ho : o.op = .call { callee := .builtin .append, args := #[s, x], argTypes := #[t, t] })
    (hs : a.eval s = v) (hx : a.eval x = u) (hown : OwnG m enc w base e v L) (hsrc : LiesG m enc w u M) (hb : base ≤ w.heap.size) (hlen : L.length + M.length ≤ 10000000)
    (h : ∀ v' w', OwnG m enc w' base e v' (L ++ M) → Below base w w' → w.grownBy w' v.ownBlock → wpList Tryd.prog ops Q rest (a.put o.dst v') w') :
    wpList Tryd.prog ops Q (o :: rest) a w :=
  wpList_plain hgd fun _ hK => wp_catG he hm h1c hinfo ht hzc hby s x ho hs hx hown hsrc hb hlen fun v' w' h1 h2 h3 => hK _ _ (h v' w' h1 h2 h3)
/-- One append of a struct that lies in a new block. -/
theorem wpList_pushG (he : ∀ x, (enc x).length = m) (hm : 0 < m) (h1c : ∀ x, ∀ u ∈ enc x, u.oneCell' = true) {ops : Array Oper} {rest : List Oper} {o : Oper} {a : Act} {Q : Exit → Act → World → Prop} {w : World} {base H : Nat} {t e : TypeId} {z : Value} {bytes : Nat} {v : Value} {L : List α} {C : Array Value} (y : α)
    (hinfo : (Tryd.prog.info? e).map (fun i => (i.zero, i.size, i.bytes)) = some (some z, m, bytes)) (ht : Tryd.prog.underlying t = some (.slice e)) (hzc : z.cells.size = m) (hby : bytes ≤ 4096)
    (s x : Operand) (hgd : o.guard = none) (ho : o.op = .call { callee := .builtin .append, args := #[s, x], argTypes := #[t, t] })
    (hs : a.eval s = v) (hx : a.eval x = .slice (some ⟨H, 0, none⟩) 1 1) (hH : w.heap.size = H) (hC : C.toList = enc y) (hown : OwnG m enc w base e v L) (hb : base ≤ w.heap.size) (hlen : L.length + 1 ≤ 10000000)
    (h : ∀ v' w', OwnG m enc w' base e v' (L ++ [y]) → Below base w w' → wpList Tryd.prog ops Q rest (a.put o.dst v') w') :
    wpList Tryd.prog ops Q (o :: rest) a (w.alloc (.cells C e)) := by
  refine wpList_catG he hm h1c (L := L) (M := [y]) hinfo ht hzc hby s x hgd ho hs hx (hown.alloc _) (OwnG.lies he (OwnG.lit he w [y] (by rw [hC]; simp [gcells]) (base := base) hb hH (by simp))) (by simp; omega) hlen fun v' w' h1 h2 _ => h v' w' h1 (((Below.refl _ _).alloc hb _).trans h2)
end

end Go.Proofs.YtppihaaipkmpcaaDoor
