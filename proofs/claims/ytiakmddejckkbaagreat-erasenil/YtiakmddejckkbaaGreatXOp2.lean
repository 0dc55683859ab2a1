/- Runs of closed code, reckoned: slices. -/
import Derived.Test.YtiakmddejckkbaaGreatXOp1
import Derived.Deep.AppendSrc
namespace Go.Proofs.YtiakmddejckkbaaGreat

/-- A block is let go. -/
theorem step_kill {ρ : Rn} {σ : AW} {w : World} (h : Rel ρ σ w) {k : Nat} (hk : σ.live k) : Step ρ σ w ρ (σ.set k noBlk) w := by
  have hg : ∀ j, (σ.set k noBlk).get j = if j = k then noBlk else σ.get j := fun j => AW.get_set σ k j _
  have hl : ∀ j, (σ.set k noBlk).live j → j ≠ k ∧ σ.live j := fun j hj => by
    unfold AW.live at *; rw [hg] at hj
    by_cases e : j = k
    · rw [if_pos e] at hj; exact absurd rfl hj.1
    · rw [if_neg e] at hj; exact ⟨e, hj⟩
  have hd : ∀ j, σ.dom j → (σ.set k noBlk).dom j := fun j hj => ⟨hj.1, by
    rw [hg]
    by_cases e : j = k
    · rw [if_pos e]; simp [noBlk]
    · rw [if_neg e]; exact hj.2⟩
  refine ⟨⟨fun j hj => ?_, fun j hj => h.lt j (hl j hj).2, fun i j hi hj => h.inj i j (hl i hi).2 (hl j hj).2, fun j hj v hv => ?_, fun j hj => ?_⟩, fun _ _ => rfl, Nat.le_refl _, fun j hj => ?_, fun j hj => .inr ⟨j, (hl j hj).2, rfl⟩, fun _ _ _ => rfl, rfl, rfl, rfl, Nat.le_refl _⟩
  · rw [hg, if_neg (hl j hj).1]; exact h.blk j (hl j hj).2
  · rw [hg, if_neg (hl j hj).1] at hv; exact (h.sc j (hl j hj).2 v hv).mono hd
  · rw [hg]
    by_cases e : j = k
    · rw [if_pos e]; rfl
    · rw [if_neg e]; exact h.fit j hj
  · rw [hg]
    by_cases e : j = k
    · subst e; rw [if_pos rfl]; exact ⟨fun x => by simp [noBlk] at x, fun x => absurd x hk.2⟩
    · rw [if_neg e]
/-- A block goes on under the next number. -/
theorem step_move {ρ : Rn} {σ : AW} {w w' : World} (h : Rel ρ σ w) {k : Nat} {b : Blk} (hk : σ.live k)
    (hs : ∀ v ∈ b.cells, Sc σ.dom v) (hw : ∀ i, i ≠ (ρ k).1 → w'.heap[i]? = w.heap[i]?) (hsz : w'.heap.size = w.heap.size)
    (hh : ∀ ρ', (∀ j, j < σ.next → ρ' j = ρ j) → Holds ρ' w' (ρ k) b)
    (ho : w'.os = w.os) (ht : w'.tape = w.tape) (hu : w'.output = w.output) : ∃ ρ', ρ' σ.next = ρ k ∧ Step ρ σ w ρ' ((σ.set k noBlk).push b) w' := by
  refine ⟨fun j => if j = σ.next then ρ k else ρ j, if_pos rfl, ?_⟩
  have hkn : k < σ.next := h.lt k hk
  have hag : ∀ j, j < σ.next → (if j = σ.next then ρ k else ρ j) = ρ j := fun j hj => if_neg (by omega)
  have hg : ∀ j, ((σ.set k noBlk).push b).get j = if j = σ.next then b else if j = k then noBlk else σ.get j := fun j => by
    rw [AW.push, AW.get_up, AW.get_set, AW.get_set]; rfl
  have hl : ∀ j, ((σ.set k noBlk).push b).live j → j ≠ σ.next → j ≠ k ∧ σ.live j := fun j hj hne => by
    unfold AW.live at *; rw [hg, if_neg hne] at hj
    by_cases e : j = k
    · rw [if_pos e] at hj; exact absurd rfl hj.1
    · rw [if_neg e] at hj; exact ⟨e, hj⟩
  have hd : ∀ j, σ.dom j → ((σ.set k noBlk).push b).dom j := fun j hj => ⟨Nat.lt_succ_of_lt hj.1, by
    rw [hg, if_neg (Nat.ne_of_lt hj.1)]
    by_cases e : j = k
    · rw [if_pos e]; simp [noBlk]
    · rw [if_neg e]; exact hj.2⟩
  have hne : ∀ j, σ.live j → j ≠ k → (ρ j).1 ≠ (ρ k).1 := fun j hj e e2 => e (h.inj j k hj hk e2)
  refine ⟨⟨fun j hj => ?_, fun j hj => ?_, fun i j hi hj e => ?_, fun j hj v hv => ?_, fun j hj => ?_⟩, hag, Nat.le_succ _, fun j hj => ?_, fun j hj => ?_, fun i hi hn => hw i (fun e => hn k hk e.symm), ho, ht, hu, Nat.le_of_eq hsz.symm⟩
  · by_cases e : j = σ.next
    · rw [hg, if_pos e]
      simp only [if_pos e]
      exact hh _ hag
    · obtain ⟨h1, h2⟩ := hl j hj e
      rw [hg, if_neg e, if_neg h1]
      simp only [if_neg e]
      exact (h.blk j h2).keep (hw _ (hne j h2 h1)) (h.sc j h2) (fun i hi => (hag i hi.1).symm)
  · by_cases e : j = σ.next
    · subst e; exact Nat.lt_succ_self _
    · exact Nat.lt_succ_of_lt (h.lt j (hl j hj e).2)
  · by_cases e1 : i = σ.next
    · by_cases e2 : j = σ.next
      · rw [e1, e2]
      · simp only [if_pos e1, if_neg e2] at e
        exact absurd e.symm (hne j (hl j hj e2).2 (hl j hj e2).1)
    · by_cases e2 : j = σ.next
      · simp only [if_neg e1, if_pos e2] at e
        exact absurd e (hne i (hl i hi e1).2 (hl i hi e1).1)
      · simp only [if_neg e1, if_neg e2] at e
        exact h.inj i j (hl i hi e1).2 (hl j hj e2).2 e
  · rw [hg] at hv
    by_cases e : j = σ.next
    · rw [if_pos e] at hv
      exact (hs v hv).mono hd
    · obtain ⟨h1, h2⟩ := hl j hj e
      rw [if_neg e, if_neg h1] at hv
      exact (h.sc j h2 v hv).mono hd
  · have hj : σ.next + 1 ≤ j := hj
    rw [hg, if_neg (by omega), if_neg (by omega)]
    exact h.fit j (by omega)
  · rw [hg, if_neg (Nat.ne_of_lt hj)]
    by_cases e : j = k
    · subst e; rw [if_pos rfl]; exact ⟨fun x => by simp [noBlk] at x, fun x => absurd x hk.2⟩
    · rw [if_neg e]
  · by_cases e : j = σ.next
    · exact .inr ⟨k, hk, by simp [e]⟩
    · exact .inr ⟨j, (hl j hj e).2, by simp [e]⟩

/-- The place of an element. -/
def elemAtA (P : Program) (e : TypeId) (a : Addr) (len : Nat) (i : Int) : Option Value := match szOf P e with
  | none => none
  | some n => if 0 ≤ i ∧ i < len then some (.pointer (some (a.add (i.toNat * n)))) else none
def indexAtA (P : Program) (t : TypeId) (x ix : Value) : Option Value := match ix with
  | .int _ i => match P.underlying t with
    | some (.array len e) => match x with
      | .pointer (some a) => elemAtA P e a len i
      | _ => none
    | some (.slice e) => match x with
      | .slice (some a) len _ => elemAtA P e a len i
      | _ => none
    | _ => none
  | _ => none
theorem sc_add {D : Nat → Prop} {a : Addr} (n : Nat) (h : Sc D (.pointer (some a))) : Sc D (.pointer (some (a.add n))) := fun ρ ρ' e => by
  have := h ρ ρ' e
  rw [ren_ptr, ren_ptr] at this ⊢
  injection this with this
  injection this with this
  rw [renB_add, renB_add, this]
theorem sc_slice_ptr {D : Nat → Prop} {a : Addr} {l c : Nat} (h : Sc D (.slice (some a) l c)) : Sc D (.pointer (some a)) := fun ρ ρ' e => by
  have := h ρ ρ' e
  rw [ren_slice, ren_slice] at this
  injection this with this
  injection this with this
  rw [ren_ptr, ren_ptr, this]
theorem indexAt_ok {P : Program} {ρ : Rn} {D : Nat → Prop} {t : TypeId} {x ix r : Value} (hx : Sc D x) (h : indexAtA P t x ix = some r) (w : World) : (Instr.indexAt t (ren ρ x) (ren ρ ix)).run P w = .ok (ren ρ r) w ∧ Sc D r := by
  unfold indexAtA at h
  split at h
  · rename_i k i
    split at h
    · rename_i len e hu
      split at h
      · rename_i a
        unfold elemAtA at h
        split at h
        · cases h
        · rename_i n hn
          split at h
          · rename_i hi
            injection h with h
            subst h
            refine ⟨?_, sc_add _ hx⟩
            unfold Instr.indexAt
            simp [ren_int, asIntOf, underlying, hu, ren_ptr, Instr.sureAddr, hi, sizeOf_run hn, renB_add]
          · cases h
      · cases h
    · rename_i e hu
      split at h
      · rename_i a len c
        unfold elemAtA at h
        split at h
        · cases h
        · rename_i n hn
          split at h
          · rename_i hi
            injection h with h
            subst h
            refine ⟨?_, sc_add _ (sc_slice_ptr hx)⟩
            unfold Instr.indexAt
            simp [ren_int, asIntOf, underlying, hu, ren_ptr, ren_slice, Instr.sureAddr, hi, sizeOf_run hn, renB_add]
          · cases h
      · cases h
    · cases h
  · cases h

/-- A bound of a slice. -/
def boundA (v : Value) (y : Nat) : Option Nat := match v with
  | .int _ i => if 0 ≤ i ∧ i ≤ y then some i.toNat else none
  | _ => none
theorem bound_ok {P : Program} {ρ : Rn} {v : Value} {y n : Nat} (h : boundA v y = some n) (y' : Nat) (hy : y ≤ y') (c : BoundsCode) (w : World) : (Instr.sliceBound (ren ρ v) y' c).run P w = .ok n w ∧ n ≤ y := by
  unfold boundA at h
  split at h
  · rename_i k i
    split at h
    · rename_i hi
      injection h with h
      subst h
      refine ⟨?_, by omega⟩
      have : i ≤ (y' : Int) := by omega
      simp [Instr.sliceBound, ren_int, asIntOf, hi.1, this]
    · cases h
  · cases h
/-- The three bounds: of a room of y at the least. -/
def boundsA (len y : Nat) (lo hi mx : Option Value) : Option (Nat × Nat × Nat) :=
  match (match mx with | none => some y | some v => boundA v y) with
  | none => none
  | some m => match (match hi, mx with | some v, _ => boundA v m | none, none => some len | none, some _ => none) with
    | none => none
    | some h => match (match lo with | none => some 0 | some v => boundA v h) with
      | none => none
      | some l => some (l, h, m)
theorem bounds_ok {P : Program} {ρ : Rn} {b : Bool} {len y l h m : Nat} {lo hi mx : Option Value} (e : boundsA len y lo hi mx = some (l, h, m)) (y' : Nat) (hy : y ≤ y') (w : World) :
    (Instr.sliceBounds b len y' (lo.map (ren ρ)) (hi.map (ren ρ)) (mx.map (ren ρ))).run P w = .ok (l, h, if mx.isSome then m else y') w := by
  unfold boundsA at e
  cases mx with
  | none =>
    cases hi with
    | none =>
      cases lo with
      | none =>
        simp only [Option.some.injEq, Prod.mk.injEq] at e
        obtain ⟨rfl, rfl, rfl⟩ := e
        simp [Instr.sliceBounds]
      | some v =>
        simp only at e
        split at e
        · cases e
        · rename_i x hx
          simp only [Option.some.injEq, Prod.mk.injEq] at e
          obtain ⟨rfl, rfl, rfl⟩ := e
          simp [Instr.sliceBounds, (bound_ok (P := P) (ρ := ρ) hx _ (Nat.le_refl _) _ w).1]
    | some u =>
      simp only at e
      split at e
      · cases e
      · rename_i x hx
        cases lo with
        | none =>
          simp only [Option.some.injEq, Prod.mk.injEq] at e
          obtain ⟨rfl, rfl, rfl⟩ := e
          simp [Instr.sliceBounds, (bound_ok (P := P) (ρ := ρ) hx _ hy _ w).1]
        | some v =>
          simp only at e
          split at e
          · cases e
          · rename_i z hz
            simp only [Option.some.injEq, Prod.mk.injEq] at e
            obtain ⟨rfl, rfl, rfl⟩ := e
            simp [Instr.sliceBounds, (bound_ok (P := P) (ρ := ρ) hx _ hy _ w).1, (bound_ok (P := P) (ρ := ρ) hz _ (Nat.le_refl _) _ w).1]
  | some q =>
    simp only at e
    split at e
    · cases e
    · rename_i mm hm
      cases hi with
      | none => cases e
      | some u =>
        simp only at e
        split at e
        · cases e
        · rename_i x hx
          cases lo with
          | none =>
            simp only [Option.some.injEq, Prod.mk.injEq] at e
            obtain ⟨rfl, rfl, rfl⟩ := e
            simp [Instr.sliceBounds, (bound_ok (P := P) (ρ := ρ) hm _ hy _ w).1, (bound_ok (P := P) (ρ := ρ) hx _ (Nat.le_refl _) _ w).1]
          | some v =>
            simp only at e
            split at e
            · cases e
            · rename_i z hz
              simp only [Option.some.injEq, Prod.mk.injEq] at e
              obtain ⟨rfl, rfl, rfl⟩ := e
              simp [Instr.sliceBounds, (bound_ok (P := P) (ρ := ρ) hm _ hy _ w).1, (bound_ok (P := P) (ρ := ρ) hx _ (Nat.le_refl _) _ w).1, (bound_ok (P := P) (ρ := ρ) hz _ (Nat.le_refl _) _ w).1]

end Go.Proofs.YtiakmddejckkbaaGreat
