/- The document's Sort: what it does, without Go; and its steps. -/
import Derived.Test.YtalfeggddfpgeaaDoorRwOrd1
import Derived.Laws.AppendOwnNone
namespace Go.Proofs.YtalfeggddfpgeaaDoor
open Go.RowKit Go.Sort

/-- i, put ahead of place k. -/
def insAt (Q : List Nat) (k i : Nat) : List Nat := Q.take k ++ [i] ++ Q.drop k
theorem insAt_perm {Q : List Nat} {k i : Nat} (h : Q.Perm (List.range i)) : (insAt Q k i).Perm (List.range (i + 1)) := by
  rw [List.range_succ]
  have h1 : (insAt Q k i).Perm (i :: Q) := by
    have := (List.perm_middle (a := i) (l₁ := Q.take k) (l₂ := Q.drop k))
    rw [List.take_append_drop] at this
    simpa [insAt] using this
  exact h1.trans ((h.cons i).trans (List.perm_append_singleton i _).symm)
theorem insAt_sorted {cf : Nat → Nat → Int} (hc : Pre cf) {Q : List Nat} {k i : Nat} (hQ : Q.Pairwise (lt cf)) (hlt : ∀ q ∈ Q, q < i) (hk : k ≤ Q.length)
    (hhi : ∀ l, k ≤ l → l < Q.length → 0 < cf (nth Q l) i) (hlo : k = 0 ∨ cf (nth Q (k - 1)) i ≤ 0) : (insAt Q k i).Pairwise (lt cf) := by
  have hd : ∀ q ∈ Q.drop k, lt cf i q := fun q hq => by
    obtain ⟨l, hl, rfl⟩ := List.getElem_of_mem hq
    simp only [List.length_drop] at hl
    have := hhi (k + l) (by omega) (by omega)
    rw [nth_get (by omega)] at this
    rw [List.getElem_drop]
    exact .inl (by rw [hc.anti]; omega)
  have ht : ∀ q ∈ Q.take k, lt cf q i := fun q hq => by
    obtain ⟨l, hl, rfl⟩ := List.getElem_of_mem hq
    simp only [List.length_take] at hl
    rcases hlo with rfl | hlo
    · omega
    rw [nth_get (by omega)] at hlo
    have e : lt cf (Q[k - 1]'(by omega)) i := by
      have := hlt _ (List.getElem_mem (show k - 1 < Q.length by omega))
      rcases Int.lt_or_eq_of_le hlo with h | h
      · exact .inl h
      · exact .inr ⟨h, this⟩
    rw [List.getElem_take]
    by_cases h2 : l = k - 1
    · subst h2; exact e
    · exact lt_trans' hc (List.pairwise_iff_getElem.1 hQ l (k - 1) (by omega) (by omega) (by omega)) e
  unfold insAt
  rw [List.append_assoc, List.pairwise_append]
  refine ⟨hQ.sublist (List.take_sublist ..), ?_, fun a ha b hb => ?_⟩
  · rw [List.singleton_append, List.pairwise_cons]
    exact ⟨hd, hQ.sublist (List.drop_sublist ..)⟩
  · rw [List.singleton_append, List.mem_cons] at hb
    rcases hb with rfl | hb
    · exact ht a ha
    · exact lt_trans' hc (ht a ha) (hd b hb)
theorem insAt_length {Q : List Nat} {k i : Nat} : (insAt Q k i).length = Q.length + 1 := by simp [insAt]; omega
theorem sortedOn_of {cf : Nat → Nat → Int} {P : List Nat} (h : P.Pairwise (lt cf)) : SortedOn cf P 0 P.length := fun k l _ h2 h3 => by
  rw [nth_get (by omega), nth_get h3]
  exact List.pairwise_iff_getElem.1 h k l (by omega) h3 h2
theorem natCells_append (P Q : List Nat) : natCells (P ++ Q) = natCells P ++ natCells Q := by simp [natCells]
theorem natCells_length (P : List Nat) : (natCells P).length = P.length := by simp [natCells]
theorem natCells_one (P : List Nat) : ∀ y ∈ natCells P, y.oneCell' = true := by
  intro y hy
  obtain ⟨k, _, rfl⟩ := List.mem_map.1 hy
  rfl

/-- The first ones of a slice, and those behind. -/
theorem LiesC.take {w : World} {ao : Option Addr} {n k cap : Nat} {xs : List Value} (h : LiesC w (.slice ao n cap) xs) (hk : k ≤ xs.length) : LiesC w (.slice ao k cap) (xs.take k) := by
  obtain ⟨a, c, he, hn, hc⟩ := h
  simp only [Value.slice.injEq] at he
  obtain ⟨rfl, rfl, rfl⟩ := he
  refine ⟨_, _, by rw [List.length_take, Nat.min_eq_left hk], ⟨hn.1, by simp; have := hn.2; omega⟩, fun i hi => ?_⟩
  simp only [List.length_take] at hi
  obtain ⟨b, off, e, h2⟩ := hc i (by omega)
  exact ⟨b, off, e, by simpa using h2⟩
theorem LiesC.drop {w : World} {b off n k cap : Nat} {xs : List Value} (h : LiesC w (.slice (some ⟨b, off, none⟩) n cap) xs) (hk : k ≤ xs.length) : LiesC w (.slice (some ⟨b, off + k, none⟩) (n - k) (cap - k)) (xs.drop k) := by
  obtain ⟨a, c, he, hn, hc⟩ := h
  simp only [Value.slice.injEq] at he
  obtain ⟨rfl, rfl, rfl⟩ := he
  refine ⟨_, _, by rw [List.length_drop], ⟨fun h => by simp at h, by simp; have := hn.2; omega⟩, fun i hi => ?_⟩
  simp only [List.length_drop] at hi
  obtain ⟨b', off', e, h2⟩ := hc (k + i) (by omega)
  simp only [Option.some.injEq, Addr.mk.injEq] at e
  obtain ⟨rfl, rfl, _⟩ := e
  exact ⟨b, off + k, rfl, by simpa [Nat.add_assoc] using h2⟩
theorem LiesC.empty (w : World) (a : Addr) (c : Nat) : LiesC w (.slice (some a) 0 c) [] := ⟨_, _, rfl, ⟨fun h => by simp at h, Nat.zero_le _⟩, fun i h => absurd h (by simp)⟩
theorem LiesC.none (w : World) : LiesC w (.slice none 0 0) [] := ⟨_, _, rfl, ⟨fun _ => rfl, Nat.le_refl _⟩, fun i h => absurd h (by simp)⟩

/-- append(v, u...), u any slice that lies in memory, as a step of a region whose order is left open. -/
theorem step_cat1 {ops : Array Oper} {o : Oper} {a : Act} {w : World} {K : Act → World → Prop} {Q : Exit → Act → World → Prop} {X : Prop} {base : Nat} {v u : Value} {xs ys : List Value} {t e : TypeId} {z : Value} {bytes : Nat}
    (hinfo : (Tryd.prog.info? e).map (fun i => (i.zero, i.size, i.bytes)) = some (some z, 1, bytes)) (ht : Tryd.prog.underlying t = some (.slice e)) (hzc : z.cells.size = 1) (hby : bytes ≤ 64)
    (s x : Operand) (hgd : o.guard = none) (ho : o.op = .call { callee := .builtin .append, args := #[s, x], argTypes := #[t, t] })
    (hs : a.eval s = v) (hx : a.eval x = u) (hown : Own1 w base e v xs) (hsrc : LiesC w u ys) (h1 : ∀ y ∈ ys, y.oneCell' = true) (hb : base ≤ w.heap.size) (hlen : xs.length + ys.length ≤ 1000000000)
    (h : ∀ v' w', Own1 w' base e v' (xs ++ ys) → Below base w w' → w.grownBy w' v.ownBlock → K (a.put o.dst v') w') :
    if Region.wanted o (yielded ops a.tmps) = true then Oper.wp Tryd.prog o a w K Q else X := by
  have hw : Region.wanted o (yielded ops a.tmps) = true := by simp [Region.wanted, hgd]
  rw [if_pos hw]
  obtain ⟨i0, hi, hz0, hz1, hz2⟩ := info_parts hinfo
  obtain ⟨ao, cap, rfl, hn, hc⟩ := hsrc
  cases ao with
  | none =>
    have h0 : ys = [] := by
      cases ys with
      | nil => rfl
      | cons y r => obtain ⟨b, off, hx, _⟩ := hc 0 (by simp); cases hx
    subst h0
    rw [hn.1 rfl] at hx
    have hrun := run_append_owned_none (P := Tryd.prog) (w := w) base t o.type e i0 1 ht hi v xs.length xs hown
    unfold Oper.wp
    simp only [execOp, ho, resolve, invoke, builtin, Sem.run_bind, Sem.run_pure, Result.andThen_ok, List.map_toArray, List.map_cons, List.map_nil, hs, hx, List.length_nil, hrun]
    exact h v w (by rw [List.append_nil]; exact hown) (Below.refl _ _) ⟨rfl, rfl, rfl, Nat.le_refl _, fun _ _ _ => rfl⟩
  | some ad =>
    obtain ⟨v', w', hr, h2, h3, h4, h5⟩ := run_append_own_at (P := Tryd.prog) w base t o.type e i0 z 1 bytes ht hi hz0 hz1 hz2 hzc (by decide) v xs.length xs hown ad ys.length cap ys (by rw [Nat.mul_one]) (fun j u hj => by
      obtain ⟨hjl, rfl⟩ := List.getElem?_eq_some_iff.1 hj
      obtain ⟨b, off, hx, hcell⟩ := hc j hjl
      simp only [Option.some.injEq] at hx
      subst hx
      rw [show (⟨b, off, none⟩ : Addr).add j = ⟨b, off + j, none⟩ by unfold Addr.add; split <;> simp_all]
      exact hcell) h1 (by unfold maxLen; omega) (Nat.le_trans (Nat.mul_le_mul hlen hby) (by decide)) hb
    unfold Oper.wp execOp
    simp only [ho, resolve, invoke, builtin, Sem.run_bind, Sem.run_pure, Result.andThen_ok, List.map_toArray, List.map_cons, List.map_nil, hs, hx, hr]
    refine h v' w' ?_ (Below.grown (Below.refl _ _) h3 hb fun k hk => (World.ownsRow.lt hown k hk).1) h3
    unfold Own1
    rw [List.length_append]
    exact h2

set_option maxHeartbeats 1000000 in
theorem key_any (w : World) (vk : Value) (xs : List Value) (p : Nat) (hk : LiesC w vk xs) :
    Calls Tryd.prog 19 #[vk, .int .i64 p] w fun e w' => e = .returned (xs.getD p (.slice none 0 0)) ∧ w' = w := by
  obtain ⟨ao, cap, rfl, hn, hc⟩ := hk
  clear hn
  by_cases h : p < xs.length
  · have hb1 : decide ((p : Int) < (xs.length : Int)) = true := by simp; omega
    have z1 : (0 : Int) ≤ (p : Int) := by omega
    have z2 : (p : Int) < (xs.length : Int) := by omega
    obtain ⟨b, off, rfl, c1⟩ := hc p h
    have HG : Hid (xs.getD p (.slice none 0 0) = xs[p]) := by show _ = _; simp [List.getD, h]
    generalize xs[p] = R at c1 HG
    clear hc
    go_enter Tryd.func19, Tryd.ntmps19
    go_wp2
    go_ret
    exact ⟨by rw [HG.out]; rfl, rfl⟩
  · have hb1 : decide ((p : Int) < (xs.length : Int)) = false := by simp; omega
    have HG : Hid (xs.getD p (.slice none 0 0) = .slice none 0 0) := by show _ = _; simp [List.getD, List.getElem?_eq_none (show xs.length ≤ p by omega)]
    clear hc
    go_enter Tryd.func19, Tryd.ntmps19
    go_wp2
    go_ret
    exact ⟨by rw [HG.out]; rfl, rfl⟩

end Go.Proofs.YtalfeggddfpgeaaDoor
