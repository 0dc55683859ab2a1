/- Runs of closed code, reckoned: a region whose order is left open. -/
import Derived.Test.YtiakmddejckkbaaGreatXDraw
namespace Go.Proofs.YtiakmddejckkbaaGreat

section
variable {P : Program} {call : CallA}
theorem flat_same {A : Fr} {σ σ' : AW} {o : Oper} {v : Value} (h : flatA P A σ o = some (v, σ')) : σ' = σ := by
  unfold flatA at h
  split at h
  · split at h
    · split at h
      · injection h with h; injection h with _ h; exact h.symm
      · cases h
    · cases h
  · cases h
theorem builtin_same {A : Fr} {σ σ' : AW} {o : Oper} {v : Value} {b : Builtin} {ts : Array TypeId} {xs : Array Operand} (he : b ≠ .append ∧ b ≠ .copy) (h : builtinA P A σ o b ts xs = some (v, σ')) : σ' = σ := by
  unfold builtinA at h
  split at h
  · exact absurd rfl he.1
  · exact absurd rfl he.2
  · split at h
    · exact (same_inv h).2
    · cases h
  · exact flat_same h
theorem opA_same {A : Fr} {σ σ' : AW} {o : Oper} {v : Value} (he : effect o.op = false) (h : opA P A σ o = some (v, σ')) : σ' = σ := by
  unfold opA at h
  split at h
  all_goals first
    | exact (same_inv h).2
    | exact flat_same h
    | (rename_i ho; rw [ho] at he; cases he; done)
    | skip
  all_goals first
    | (split at h <;> first | exact (same_inv h).2 | exact flat_same h | (injection h with h; injection h with _ h; exact h.symm; done) | (cases h; done) | (split at h <;> first | exact (same_inv h).2 | exact flat_same h | (injection h with h; injection h with _ h; exact h.symm; done) | (cases h; done) | (split at h <;> first | exact (same_inv h).2 | exact flat_same h | (injection h with h; injection h with _ h; exact h.symm; done) | (cases h; done) | (split at h <;> first | exact flat_same h | (injection h with h; injection h with _ h; exact h.symm; done)))); done)
    | skip
  all_goals
    rename_i c ho
    rw [ho] at he
    split at h
    · rename_i b hb
      refine builtin_same (b := b) ?_ h
      simp only [effect, hb] at he
      cases b <;> first | (cases he; done) | exact ⟨by simp, by simp⟩
    · cases h
theorem guard_same {all : List Oper} {A : Fr} {σ σ' : AW} {o : Oper} {v : Value} (he : effect o.op = false) (h : guardA call P all A σ o = some (v, σ')) : σ' = σ := by
  unfold guardA at h
  split at h
  · unfold stepA at h
    split at h
    · rename_i c ho
      split at h
      · rename_i f hf
        rw [ho] at he
        simp [effect, hf] at he
      · exact opA_same he h
    · exact opA_same he h
  · injection h with h; injection h with _ h; exact h.symm
  · cases h

theorem veq0_eq {x y : Value} (h : veq0 x y = true) : x = y := by
  unfold veq0 at h
  split at h
  · rw [beq_iff_eq.1 h]
  · simp only [Bool.and_eq_true, beq_iff_eq] at h; rw [h.1, h.2]
  · rename_i a b
    have := beq_iff_eq.1 h
    cases a with
    | mk d => cases b with
      | mk e => congr 2; exact Array.ext' this
  · rfl
  · rename_i a b
    simp only [Bool.and_eq_true, beq_iff_eq] at h
    cases a; cases b
    simp only at h
    obtain ⟨⟨rfl, rfl⟩, rfl⟩ := h
    rfl
  · simp only [Bool.and_eq_true, beq_iff_eq] at h; rw [h.1, h.2]
  · rename_i a l c b m d
    simp only [Bool.and_eq_true, beq_iff_eq] at h
    cases a; cases b
    simp only at h
    obtain ⟨⟨⟨⟨rfl, rfl⟩, rfl⟩, rfl⟩, rfl⟩ := h
    rfl
  · rfl
  · rw [beq_iff_eq.1 h]
  · rfl
  · rfl
  · cases h
theorem veqLs_eq {f : Value → Value → Bool} (hf : ∀ x y, f x y = true → x = y) : ∀ {l m : List Value}, veqLs f l m = true → l = m
  | [], [], _ => rfl
  | [], _ :: _, h => by cases h
  | _ :: _, [], h => by cases h
  | x :: l, y :: m, h => by
    simp only [veqLs, Bool.and_eq_true] at h
    rw [hf x y h.1, veqLs_eq hf h.2]
theorem veq1_eq {x y : Value} (h : veq1 x y = true) : x = y := by
  unfold veq1 at h
  split at h
  · simp only [Bool.and_eq_true, beq_iff_eq] at h
    rw [h.1.1, veqLs_eq (fun _ _ => veq0_eq) h.1.2, veqLs_eq (fun _ _ => veq0_eq) h.2]
  · exact veq0_eq h
theorem veqL_eq {l m : List Value} (h : veqL l m = true) : l = m := veqLs_eq (fun _ _ => veq1_eq) h
theorem veq2_eq {x y : Value} (h : veq2 x y = true) : x = y := by
  unfold veq2 at h
  split at h
  · rw [veqL_eq h]
  · exact veq1_eq h
theorem veq_eq {x y : Value} (h : veq x y = true) : x = y := by
  unfold veq at h
  split at h
  · rw [veqLs_eq (fun _ _ => veq2_eq) h]
  · exact veq2_eq h

/-- Where the run is, in whatever order: the operations of L have come up. The variable of operation i0 may be made before its time: then it lies beside all that is reckoned. -/
structure Inv (P : Program) (all : List Oper) (i0 : Nat) (tr : List (Fr × AW × Value)) (A0 Af : Fr) (σf : AW) (ρ0 : Rn) (σ0 : AW) (w0 : World) (L : Array Bool) (f : Nat) (ρ : Rn) (a : Act) (w : World) : Prop where
  closed : Closed all L
  place : f ∈ places all
  eff : ∀ j o, all[j]? = some o → effect o.op = true → j ≠ i0 → (listed L j ↔ j < f)
  fl : i0 < f → i0 < all.length → listed L i0
  step : Step ρ0 σ0 w0 ρ (stAt tr Af σf f).2 w
  size : a.tmps.size = A0.size
  defers : a.defers = []
  done : ∀ j o t v u, all[j]? = some o → (j = i0 → i0 < f) → listed L j → o.dst = some t → (tr[j]?.map (·.2.2)) = some v → A0.get t = some u → a.tmps[t]? = some (ren ρ v) ∧ Sc (stAt tr Af σf f).2.dom v
  todo : ∀ t v, (∀ j o, all[j]? = some o → listed L j → o.dst ≠ some t) → A0.get t = some v → a.tmps[t]? = some (ren ρ v) ∧ Sc (stAt tr Af σf f).2.dom v
  side : listed L i0 → f ≤ i0 → ∀ o t d u, all[i0]? = some o → o.op = .alloc t → o.dst = some d → A0.get d = some u → ∃ b z, zeroOf P t = some z ∧ a.tmps[d]? = some (.pointer (some ⟨b, 0, none⟩)) ∧ w.heap[b]? = some (.cells z.cells t (0, 0)) ∧ (∀ k, (stAt tr Af σf f).2.live k → (ρ k).1 ≠ b) ∧ w0.heap.size ≤ b

/-- A block beside all that is reckoned. -/
theorem step_beside {ρ : Rn} {σ : AW} {w : World} (h : Rel ρ σ w) (o : Obj) : Step ρ σ w ρ σ (w.alloc o) := by
  have hold : ∀ i, i < w.heap.size → (w.alloc o).heap[i]? = w.heap[i]? := fun i hi => by
    unfold World.alloc
    rw [Array.getElem?_push, if_neg (by omega)]
  exact ⟨⟨fun k hk => (h.blk k hk).keep (hold _ (h.blk k hk).lt) (h.sc k hk) (fun _ _ => rfl), h.lt, h.inj, h.sc, h.fit⟩, fun _ _ => rfl, Nat.le_refl _, fun _ _ => Iff.rfl, fun k hk => .inr ⟨k, hk, rfl⟩, fun i hi _ => hold i hi, rfl, rfl, rfl, by simp⟩
/-- A block that lay beside is taken in. -/
theorem rel_adopt {ρ : Rn} {σ : AW} {w : World} (h : Rel ρ σ w) {b : Nat} {t : TypeId} {z : Value} (hz : Fl z) (hb : w.heap[b]? = some (.cells z.cells t (0, 0))) (hn : ∀ k, σ.live k → (ρ k).1 ≠ b) :
    Rel (fun k => if k = σ.next then (b, 0) else ρ k) (σ.push ⟨1, t, 0, cellsL z⟩) w := by
  have hg : ∀ j, (σ.push ⟨1, t, 0, cellsL z⟩).get j = if j = σ.next then ⟨1, t, 0, cellsL z⟩ else σ.get j := fun j => by rw [AW.push, AW.get_up, AW.get_set]
  have hag : ∀ j, j < σ.next → (if j = σ.next then (b, 0) else ρ j) = ρ j := fun j hj => if_neg (by omega)
  have hl : ∀ j, (σ.push ⟨1, t, 0, cellsL z⟩).live j → j ≠ σ.next → σ.live j := fun j hj hne => by
    unfold AW.live at *; rw [hg, if_neg hne] at hj; exact hj
  have hd : ∀ j, σ.dom j → (σ.push ⟨1, t, 0, cellsL z⟩).dom j := fun j hj => ⟨Nat.lt_succ_of_lt hj.1, by rw [hg, if_neg (Nat.ne_of_lt hj.1)]; exact hj.2⟩
  refine ⟨fun j hj => ?_, fun j hj => ?_, fun i j hi hj e => ?_, fun j hj v hv => ?_, fun j hj => ?_⟩
  · by_cases e : j = σ.next
    · rw [hg, if_pos e]
      simp only [if_pos e]
      show w.heap[b]? = _
      rw [hb, zero_map hz, ← cellsL_cells]
    · rw [hg, if_neg e]
      simp only [if_neg e]
      have hj' := hl j hj e
      exact (h.blk j hj').keep rfl (h.sc j hj') (fun i hi => (hag i hi.1).symm)
  · by_cases e : j = σ.next
    · subst e; exact Nat.lt_succ_self _
    · exact Nat.lt_succ_of_lt (h.lt j (hl j hj e))
  · by_cases e1 : i = σ.next
    · by_cases e2 : j = σ.next
      · rw [e1, e2]
      · simp only [if_pos e1, if_neg e2] at e
        exact absurd e.symm (hn j (hl j hj e2))
    · by_cases e2 : j = σ.next
      · simp only [if_neg e1, if_pos e2] at e
        exact absurd e (hn i (hl i hi e1))
      · simp only [if_neg e1, if_neg e2] at e
        exact h.inj i j (hl i hi e1) (hl j hj e2) e
  · rw [hg] at hv
    by_cases e : j = σ.next
    · rw [if_pos e] at hv
      exact zero_sc hz _ v hv
    · rw [if_neg e] at hv
      exact (h.sc j (hl j hj e) v hv).mono hd
  · have hj : σ.next + 1 ≤ j := hj
    rw [hg, if_neg (by omega)]
    exact h.fit j (by omega)

/-- What a temporary is, ahead of operation i. -/
theorem tmp_before {all : List Oper} {tr : List (Fr × AW × Value)} {A0 Af : Fr} {σf : AW} (h0 : (stAt tr Af σf 0).1 = A0)
    (hs : ∀ i o, all[i]? = some o → ∃ v, (tr[i]?.map (·.2.2)) = some v ∧ (stAt tr Af σf (i + 1)).1 = putA (stAt tr Af σf i).1 o.dst v)
    (once : ∀ (i j : Nat) (o x : Oper) (d : Tmp), all[i]? = some o → all[j]? = some x → i ≠ j → x.dst = some d → o.dst ≠ some d) (t : Tmp) :
    ∀ i, i ≤ all.length → ((∀ j o, j < i → all[j]? = some o → o.dst ≠ some t) → (stAt tr Af σf i).1.get t = A0.get t) ∧
      (∀ j o v, j < i → all[j]? = some o → o.dst = some t → (tr[j]?.map (·.2.2)) = some v → (stAt tr Af σf i).1.get t = (A0.get t).map (fun _ => v)) := by
  intro i
  induction i with
  | zero => exact fun _ => ⟨fun _ => by rw [h0], fun j o v hj => by omega⟩
  | succ i ih =>
    intro hi
    obtain ⟨ih1, ih2⟩ := ih (by omega)
    have ho : all[i]? = some all[i] := List.getElem?_eq_getElem (by omega)
    obtain ⟨v, hv, hp⟩ := hs i _ ho
    rw [hp]
    refine ⟨fun hn => ?_, fun j o u hj hjo hd hu => ?_⟩
    · have hni := hn i _ (by omega) ho
      have h1 := ih1 (fun j o hj => hn j o (by omega))
      cases hd : (all[i]).dst with
      | none => exact h1
      | some d =>
        simp only [putA, Fr.get_set]
        rw [if_neg (fun e => hni (by rw [hd, e])), h1]
    · by_cases hji : j = i
      · subst hji
        rw [ho] at hjo
        injection hjo with hjo
        subst hjo
        rw [hv] at hu
        injection hu with hu
        subst hu
        rw [hd]
        simp only [putA, Fr.get_set, if_true]
        have h1 := ih1 (fun k x hk hx hxd => once k j x _ t hx ho (by omega) hd hxd)
        rw [h1]
      · have h1 := ih2 j o u (by omega) hjo hd hu
        have hne : (all[i]).dst ≠ some t := once i j _ o t ho hjo (Ne.symm hji) hd
        cases hd2 : (all[i]).dst with
        | none => exact h1
        | some d =>
          simp only [putA, Fr.get_set]
          rw [if_neg (fun e => hne (by rw [hd2, e])), h1]
/-- Where nobody acts the state stays. -/
theorem st_same {all : List Oper} {tr : List (Fr × AW × Value)} {Af : Fr} {σf : AW} (hs : ∀ i o, all[i]? = some o → ∃ v, guardA call P all (stAt tr Af σf i).1 (stAt tr Af σf i).2 o = some (v, (stAt tr Af σf (i + 1)).2)) (f : Nat) :
    ∀ i, f ≤ i → i ≤ all.length → (∀ j o, f ≤ j → j < i → all[j]? = some o → effect o.op = false) → (stAt tr Af σf i).2 = (stAt tr Af σf f).2 := by
  intro i
  induction i with
  | zero => intro h _ _; rw [Nat.le_zero.1 h]
  | succ i ih =>
    intro h hi hn
    by_cases e : f = i + 1
    · rw [e]
    · have ho : all[i]? = some all[i] := List.getElem?_eq_getElem (by omega)
      obtain ⟨v, hg⟩ := hs i _ ho
      rw [guard_same (hn i _ (by omega) (by omega) ho) hg]
      exact ih (by omega) (by omega) (fun j o h1 h2 => hn j o h1 (by omega))
end

end Go.Proofs.YtiakmddejckkbaaGreat
