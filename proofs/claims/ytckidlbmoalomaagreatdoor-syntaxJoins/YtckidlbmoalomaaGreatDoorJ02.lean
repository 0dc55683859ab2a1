/- Runs of closed code, reckoned: slices. Runs of closed code, reckoned: parts of slices, append, copy, make. Runs of closed code, reckoned: append, copy, make, literals. Runs of closed code, reckoned: literals, make, copy, lengths. -/
import Derived.Test.YtckidlbmoalomaaGreatDoorJ01
import Derived.Deep.AppendSrc


namespace Go.Proofs.YtckidlbmoalomaaGreatDoor

theorem step_kill {ρ : Rn} {σ : AW} {w : World} (h : Rel ρ σ w) {k : Nat} (hk : σ.live k) : Step ρ σ w ρ (σ.set k noBlk) w := by
  have hg : ∀ j, (σ.set k noBlk).get j = if j = k then noBlk else σ.get j := fun j => AW.get_set σ k j _
  have hl : ∀ j, (σ.set k noBlk).live j → j ≠ k ∧ σ.live j := fun j hj => by
    unfold AW.live at *; rw [hg] at hj
    by_cases e : j = k
    · rw [if_pos e] at hj; exact absurd rfl hj.1
    · rw [if_neg e] at hj; exact ⟨e, hj⟩
  have hd : ∀ j, σ.dom j → (σ.set k noBlk).dom j := fun j hj => ⟨hj.1, by
    rw [hg]
    by_cases e : j = k
    · rw [if_pos e]; simp [noBlk]
    · rw [if_neg e]; exact hj.2⟩
  refine ⟨⟨fun j hj => ?_, fun j hj => h.lt j (hl j hj).2, fun i j hi hj => h.inj i j (hl i hi).2 (hl j hj).2, fun j hj v hv => ?_, fun j hj => ?_, h.glob.next (Nat.le_refl _) (fun j hj => .inr ⟨j, (hl j hj).2, rfl⟩) (fun _ _ _ => rfl)⟩, fun _ _ => rfl, Nat.le_refl _, fun j hj => ?_, fun j hj => .inr ⟨j, (hl j hj).2, rfl⟩, fun _ _ _ => rfl, rfl, rfl, rfl, Nat.le_refl _⟩
  · rw [hg, if_neg (hl j hj).1]; exact h.blk j (hl j hj).2
  · rw [hg, if_neg (hl j hj).1] at hv; exact (h.sc j (hl j hj).2 v hv).mono hd
  · rw [hg]
    by_cases e : j = k
    · rw [if_pos e]; rfl
    · rw [if_neg e]; exact h.fit j hj
  · rw [hg]
    by_cases e : j = k
    · subst e; rw [if_pos rfl]; exact ⟨fun x => by simp [noBlk] at x, fun x => absurd x hk.2⟩
    · rw [if_neg e]
theorem step_move {ρ : Rn} {σ : AW} {w w' : World} (h : Rel ρ σ w) {k : Nat} {b : Blk} (hk : σ.live k)
    (hs : ∀ v ∈ b.cells, Sc σ.dom v) (hw : ∀ i, i ≠ (ρ k).1 → w'.heap[i]? = w.heap[i]?) (hsz : w'.heap.size = w.heap.size)
    (hh : ∀ ρ', (∀ j, j < σ.next → ρ' j = ρ j) → Holds ρ' w' (ρ k) b)
    (ho : w'.os = w.os) (ht : w'.tape = w.tape) (hu : w'.output = w.output) : ∃ ρ', ρ' σ.next = ρ k ∧ Step ρ σ w ρ' ((σ.set k noBlk).push b) w' := by
  refine ⟨fun j => if j = σ.next then ρ k else ρ j, if_pos rfl, ?_⟩
  have hkn : k < σ.next := h.lt k hk
  have hag : ∀ j, j < σ.next → (if j = σ.next then ρ k else ρ j) = ρ j := fun j hj => if_neg (by omega)
  have hg : ∀ j, ((σ.set k noBlk).push b).get j = if j = σ.next then b else if j = k then noBlk else σ.get j := fun j => by
    rw [AW.push, AW.get_up, AW.get_set, AW.get_set]; rfl
  have hl : ∀ j, ((σ.set k noBlk).push b).live j → j ≠ σ.next → j ≠ k ∧ σ.live j := fun j hj hne => by
    unfold AW.live at *; rw [hg, if_neg hne] at hj
    by_cases e : j = k
    · rw [if_pos e] at hj; exact absurd rfl hj.1
    · rw [if_neg e] at hj; exact ⟨e, hj⟩
  have hd : ∀ j, σ.dom j → ((σ.set k noBlk).push b).dom j := fun j hj => ⟨Nat.lt_succ_of_lt hj.1, by
    rw [hg, if_neg (Nat.ne_of_lt hj.1)]
    by_cases e : j = k
    · rw [if_pos e]; simp [noBlk]
    · rw [if_neg e]; exact hj.2⟩
  have hne : ∀ j, σ.live j → j ≠ k → (ρ j).1 ≠ (ρ k).1 := fun j hj e e2 => e (h.inj j k hj hk e2)
  have hcame : ∀ j, ((σ.set k noBlk).push b).live j → w.heap.size ≤ (if j = σ.next then ρ k else ρ j).1 ∨ ∃ i, σ.live i ∧ (ρ i).1 = (if j = σ.next then ρ k else ρ j).1 := fun j hj => by
    by_cases e : j = σ.next
    · exact .inr ⟨k, hk, by simp [e]⟩
    · exact .inr ⟨j, (hl j hj e).2, by simp [e]⟩
  refine ⟨⟨fun j hj => ?_, fun j hj => ?_, fun i j hi hj e => ?_, fun j hj v hv => ?_, fun j hj => ?_, h.glob.next (Nat.le_of_eq hsz.symm) hcame (fun i hi hn => hw i (fun e => hn k hk e.symm))⟩, hag, Nat.le_succ _, fun j hj => ?_, hcame, fun i hi hn => hw i (fun e => hn k hk e.symm), ho, ht, hu, Nat.le_of_eq hsz.symm⟩
  · by_cases e : j = σ.next
    · rw [hg, if_pos e]
      simp only [if_pos e]
      exact hh _ hag
    · obtain ⟨h1, h2⟩ := hl j hj e
      rw [hg, if_neg e, if_neg h1]
      simp only [if_neg e]
      exact (h.blk j h2).keep (hw _ (hne j h2 h1)) (h.sc j h2) (fun i hi => (hag i hi.1).symm)
  · by_cases e : j = σ.next
    · subst e; exact Nat.lt_succ_self _
    · exact Nat.lt_succ_of_lt (h.lt j (hl j hj e).2)
  · by_cases e1 : i = σ.next
    · by_cases e2 : j = σ.next
      · rw [e1, e2]
      · simp only [if_pos e1, if_neg e2] at e
        exact absurd e.symm (hne j (hl j hj e2).2 (hl j hj e2).1)
    · by_cases e2 : j = σ.next
      · simp only [if_neg e1, if_pos e2] at e
        exact absurd e (hne i (hl i hi e1).2 (hl i hi e1).1)
      · simp only [if_neg e1, if_neg e2] at e
        exact h.inj i j (hl i hi e1).2 (hl j hj e2).2 e
  · rw [hg] at hv
    by_cases e : j = σ.next
    · rw [if_pos e] at hv
      exact (hs v hv).mono hd
    · obtain ⟨h1, h2⟩ := hl j hj e
      rw [if_neg e, if_neg h1] at hv
      exact (h.sc j h2 v hv).mono hd
  · have hj : σ.next + 1 ≤ j := hj
    rw [hg, if_neg (by omega), if_neg (by omega)]
    exact h.fit j (by omega)
  · rw [hg, if_neg (Nat.ne_of_lt hj)]
    by_cases e : j = k
    · subst e; rw [if_pos rfl]; exact ⟨fun x => by simp [noBlk] at x, fun x => absurd x hk.2⟩
    · rw [if_neg e]

def elemAtA (P : Program) (e : TypeId) (a : Addr) (len : Nat) (i : Int) : Option Value := match szOf P e with
  | none => none
  | some n => if 0 ≤ i ∧ i < len then some (.pointer (some (a.add (i.toNat * n)))) else none
def indexAtA (P : Program) (t : TypeId) (x ix : Value) : Option Value := match ix with
  | .int _ i => match P.underlying t with
    | some (.array len e) => match x with
      | .pointer (some a) => elemAtA P e a len i
      | _ => none
    | some (.slice e) => match x with
      | .slice (some a) len _ => elemAtA P e a len i
      | _ => none
    | _ => none
  | _ => none
theorem sc_add {D : Nat → Prop} {a : Addr} (n : Nat) (h : Sc D (.pointer (some a))) : Sc D (.pointer (some (a.add n))) := fun ρ ρ' e => by
  have := h ρ ρ' e
  rw [ren_ptr, ren_ptr] at this ⊢
  injection this with this
  injection this with this
  rw [renB_add, renB_add, this]
theorem sc_slice_ptr {D : Nat → Prop} {a : Addr} {l c : Nat} (h : Sc D (.slice (some a) l c)) : Sc D (.pointer (some a)) := fun ρ ρ' e => by
  have := h ρ ρ' e
  rw [ren_slice, ren_slice] at this
  injection this with this
  injection this with this
  rw [ren_ptr, ren_ptr, this]
theorem indexAt_ok {P : Program} {ρ : Rn} {D : Nat → Prop} {t : TypeId} {x ix r : Value} (hx : Sc D x) (h : indexAtA P t x ix = some r) (w : World) : (Instr.indexAt t (ren ρ x) (ren ρ ix)).run P w = .ok (ren ρ r) w ∧ Sc D r := by
  unfold indexAtA at h
  split at h
  · rename_i k i
    split at h
    · rename_i len e hu
      split at h
      · rename_i a
        unfold elemAtA at h
        split at h
        · cases h
        · rename_i n hn
          split at h
          · rename_i hi
            injection h with h
            subst h
            refine ⟨?_, sc_add _ hx⟩
            unfold Instr.indexAt
            simp [ren_int, asIntOf, underlying, hu, ren_ptr, Instr.sureAddr, hi, sizeOf_run hn, renB_add]
          · cases h
      · cases h
    · rename_i e hu
      split at h
      · rename_i a len c
        unfold elemAtA at h
        split at h
        · cases h
        · rename_i n hn
          split at h
          · rename_i hi
            injection h with h
            subst h
            refine ⟨?_, sc_add _ (sc_slice_ptr hx)⟩
            unfold Instr.indexAt
            simp [ren_int, asIntOf, underlying, hu, ren_ptr, ren_slice, Instr.sureAddr, hi, sizeOf_run hn, renB_add]
          · cases h
      · cases h
    · cases h
  · cases h

def boundA (v : Value) (y : Nat) : Option Nat := match v with
  | .int _ i => if 0 ≤ i ∧ i ≤ y then some i.toNat else none
  | _ => none
theorem bound_ok {P : Program} {ρ : Rn} {v : Value} {y n : Nat} (h : boundA v y = some n) (y' : Nat) (hy : y ≤ y') (c : BoundsCode) (w : World) : (Instr.sliceBound (ren ρ v) y' c).run P w = .ok n w ∧ n ≤ y := by
  unfold boundA at h
  split at h
  · rename_i k i
    split at h
    · rename_i hi
      injection h with h
      subst h
      refine ⟨?_, by omega⟩
      have : i ≤ (y' : Int) := by omega
      simp [Instr.sliceBound, ren_int, asIntOf, hi.1, this]
    · cases h
  · cases h
def boundsA (len y : Nat) (lo hi mx : Option Value) : Option (Nat × Nat × Nat) :=
  match (match mx with | none => some y | some v => boundA v y) with
  | none => none
  | some m => match (match hi, mx with | some v, _ => boundA v m | none, none => some len | none, some _ => none) with
    | none => none
    | some h => match (match lo with | none => some 0 | some v => boundA v h) with
      | none => none
      | some l => some (l, h, m)
theorem bounds_ok {P : Program} {ρ : Rn} {b : Bool} {len y l h m : Nat} {lo hi mx : Option Value} (e : boundsA len y lo hi mx = some (l, h, m)) (y' : Nat) (hy : y ≤ y') (w : World) :
    (Instr.sliceBounds b len y' (lo.map (ren ρ)) (hi.map (ren ρ)) (mx.map (ren ρ))).run P w = .ok (l, h, if mx.isSome then m else y') w := by
  unfold boundsA at e
  cases mx with
  | none =>
    cases hi with
    | none =>
      cases lo with
      | none =>
        simp only [Option.some.injEq, Prod.mk.injEq] at e
        obtain ⟨rfl, rfl, rfl⟩ := e
        simp [Instr.sliceBounds]
      | some v =>
        simp only at e
        split at e
        · cases e
        · rename_i x hx
          simp only [Option.some.injEq, Prod.mk.injEq] at e
          obtain ⟨rfl, rfl, rfl⟩ := e
          simp [Instr.sliceBounds, (bound_ok (P := P) (ρ := ρ) hx _ (Nat.le_refl _) _ w).1]
    | some u =>
      simp only at e
      split at e
      · cases e
      · rename_i x hx
        cases lo with
        | none =>
          simp only [Option.some.injEq, Prod.mk.injEq] at e
          obtain ⟨rfl, rfl, rfl⟩ := e
          simp [Instr.sliceBounds, (bound_ok (P := P) (ρ := ρ) hx _ hy _ w).1]
        | some v =>
          simp only at e
          split at e
          · cases e
          · rename_i z hz
            simp only [Option.some.injEq, Prod.mk.injEq] at e
            obtain ⟨rfl, rfl, rfl⟩ := e
            simp [Instr.sliceBounds, (bound_ok (P := P) (ρ := ρ) hx _ hy _ w).1, (bound_ok (P := P) (ρ := ρ) hz _ (Nat.le_refl _) _ w).1]
  | some q =>
    simp only at e
    split at e
    · cases e
    · rename_i mm hm
      cases hi with
      | none => cases e
      | some u =>
        simp only at e
        split at e
        · cases e
        · rename_i x hx
          cases lo with
          | none =>
            simp only [Option.some.injEq, Prod.mk.injEq] at e
            obtain ⟨rfl, rfl, rfl⟩ := e
            simp [Instr.sliceBounds, (bound_ok (P := P) (ρ := ρ) hm _ hy _ w).1, (bound_ok (P := P) (ρ := ρ) hx _ (Nat.le_refl _) _ w).1]
          | some v =>
            simp only at e
            split at e
            · cases e
            · rename_i z hz
              simp only [Option.some.injEq, Prod.mk.injEq] at e
              obtain ⟨rfl, rfl, rfl⟩ := e
              simp [Instr.sliceBounds, (bound_ok (P := P) (ρ := ρ) hm _ hy _ w).1, (bound_ok (P := P) (ρ := ρ) hx _ (Nat.le_refl _) _ w).1, (bound_ok (P := P) (ρ := ρ) hz _ (Nat.le_refl _) _ w).1]

end Go.Proofs.YtckidlbmoalomaaGreatDoor


namespace Go.Proofs.YtckidlbmoalomaaGreatDoor

def roomA (P : Program) (σ : AW) (e : TypeId) (a : Addr) (cap : Nat) : Option Nat :=
  if cap % 2 = 0 then some (cap / 2) else
  match σ.get a.block with
  | ⟨2, _, z, cs⟩ => match szOf P e with
    | none => none
    | some n => if n = z ∧ 0 < z ∧ a.off = cap / 2 * z then some (cs.length / z - cap / 2) else none
  | _ => none
theorem room_ok {P : Program} {ρ : Rn} {σ : AW} {w : World} (h : Rel ρ σ w) {e : TypeId} {a : Addr} {cap y : Nat} (hr : roomA P σ e a cap = some y) :
    y ≤ capR ρ a.block cap ∧ (cap % 2 = 0 → y = cap / 2) := by
  unfold roomA at hr
  unfold capR
  split at hr
  · rename_i hc
    injection hr with hr
    rw [if_pos hc]
    exact ⟨by omega, fun _ => by omega⟩
  · rename_i hc
    rw [if_neg hc]
    split at hr
    · rename_i el z cs hg
      split at hr
      · cases hr
      · split at hr
        · rename_i n _ hz
          injection hr with hr
          have hl : σ.live a.block := by unfold AW.live; rw [hg]; exact ⟨by simp, by simp⟩
          have := h.blk _ hl
          rw [hg] at this
          obtain ⟨rest, h1, h2⟩ := this
          simp only at h2
          refine ⟨?_, fun x => absurd x hc⟩
          have : cs.length / z ≤ (ρ a.block).2 := by
            rw [Nat.div_le_iff_le_mul_add_pred hz.2.1]
            rw [Nat.mul_comm] at h2
            omega
          omega
        · cases hr
    · cases hr
theorem boundsA_m {len y l h m : Nat} {lo hi : Option Value} (e : boundsA len y lo hi none = some (l, h, m)) : m = y := by
  unfold boundsA at e
  simp only at e
  split at e
  · cases e
  · split at e
    · cases e
    · simp only [Option.some.injEq, Prod.mk.injEq] at e
      exact e.2.2.symm
def sliceA (P : Program) (σ : AW) (t : TypeId) (x : Value) (lo hi mx : Option Value) : Option Value := match P.underlying t with
  | some (.slice e) => match szOf P e with
    | none => none
    | some n => match x with
      | .slice none len cap => match boundsA len cap lo hi mx with
        | none => none
        | some (l, h, m) => some (.slice none (h - l) (m - l))
      | .slice (some a) len cap => match roomA P σ e a cap with
        | none => none
        | some y => match boundsA len y lo hi mx with
          | none => none
          | some (l, h, m) =>
            if cap % 2 = 0 ∨ mx.isSome = true then some (.slice (some (if m = l then a else a.add (l * n))) (h - l) (2 * (m - l)))
            else if l = 0 then some (.slice (some a) h cap)
            else if l < y then some (.slice (some (a.add (l * n))) (h - l) (cap + 2 * l))
            else none
      | _ => none
  | some (.array len e) => match szOf P e with
    | none => none
    | some n => match x with
      | .pointer (some a) => match boundsA len len lo hi mx with
        | none => none
        | some (l, h, m) => some (.slice (some (if m = l then a else a.add (l * n))) (h - l) (2 * (m - l)))
      | _ => none
  | _ => none
theorem capR_even (ρ : Rn) (k m : Nat) : capR ρ k (2 * m) = m := by unfold capR; rw [if_pos (by omega)]; omega
theorem sc_ptr_slice {D : Nat → Prop} {a : Addr} {l c : Nat} (h : Sc D (.pointer (some a))) : Sc D (.slice (some a) l (2 * c)) := fun ρ ρ' e => by
  have := h ρ ρ' e
  rw [ren_ptr, ren_ptr] at this
  rw [ren_slice, ren_slice, capR_even, capR_even, Option.some.inj (Value.pointer.inj this)]
theorem sliceAt_ok {P : Program} {ρ : Rn} {σ : AW} {w : World} (hR : Rel ρ σ w) {t : TypeId} {x r : Value} {lo hi mx : Option Value} (hx : Sc σ.dom x) (h : sliceA P σ t x lo hi mx = some r) :
    (Instr.sliceAt t (ren ρ x) (lo.map (ren ρ)) (hi.map (ren ρ)) (mx.map (ren ρ))).run P w = .ok (ren ρ r) w ∧ Sc σ.dom r := by
  unfold sliceA at h
  split at h
  · rename_i e hu
    split at h
    · cases h
    · rename_i n hn
      split at h
      · rename_i len cap
        split at h
        · cases h
        · rename_i l hh m hb
          injection h with h
          subst h
          refine ⟨?_, fun _ _ _ => rfl⟩
          have hm : (if mx.isSome = true then m else cap) = m := by
            split
            · rfl
            · rename_i hmx
              cases mx with
              | none => exact (boundsA_m hb).symm
              | some v => exact absurd rfl hmx
          simp [Instr.sliceAt, Instr.slice, underlying, hu, ren_snil, bounds_ok hb cap (Nat.le_refl _), sizeOf_run hn, hm]
      · rename_i a len cap
        split at h
        · cases h
        · rename_i y hy
          split at h
          · cases h
          · rename_i l hh m hb
            obtain ⟨h1, h2⟩ := room_ok hR hy
            have hrun := fun w => bounds_ok (P := P) (ρ := ρ) (b := true) hb _ h1 w
            split at h
            · rename_i hc
              injection h with h
              subst h
              have hm : (if mx.isSome = true then m else capR ρ a.block cap) = m := by
                rcases hc with hc | hc
                · split
                  · rfl
                  · rename_i hmx
                    have h3 := h2 hc
                    cases mx with
                    | none => rw [boundsA_m hb, h3, capR, if_pos hc]
                    | some v => exact absurd rfl hmx
                · rw [if_pos hc]
              refine ⟨?_, sc_ptr_slice ?_⟩
              · simp only [Instr.sliceAt, Instr.slice, underlying, hu, ren_slice, hrun, sizeOf_run hn, hm, Sem.run_bind, run_program, Result.andThen_ok, Sem.run_pure, Option.map_some, capR_even]
                split <;> simp [renB_add]
              · split
                · exact sc_slice_ptr hx
                · exact sc_add _ (sc_slice_ptr hx)
            · rename_i hc
              have hc1 : ¬ cap % 2 = 0 := fun e => hc (.inl e)
              have hc2 : mx.isSome = false := by cases hq : mx.isSome with | false => rfl | true => exact absurd (.inr hq) hc
              have hrun : ∀ w : World, (Instr.sliceBounds true len (capR ρ a.block cap) (lo.map (ren ρ)) (hi.map (ren ρ)) (mx.map (ren ρ))).run P w = .ok (l, hh, capR ρ a.block cap) w := fun w => by
                have := hrun w
                rw [hc2] at this
                exact this
              split at h
              · rename_i hl0
                injection h with h
                subst h
                refine ⟨?_, fun ρ ρ' e => by
                  have := hx ρ ρ' e
                  rw [ren_slice, ren_slice] at this ⊢
                  obtain ⟨t1, _, t3⟩ := Value.slice.inj this
                  rw [t1, t3]⟩
                subst hl0
                simp only [Instr.sliceAt, Instr.slice, underlying, hu, ren_slice, hrun, sizeOf_run hn, Sem.run_bind, run_program, Result.andThen_ok, Sem.run_pure, Option.map_some]
                simp [Addr.add]
              · split at h
                · rename_i hl0 hly
                  injection h with h
                  subst h
                  have hne : ¬ capR ρ a.block cap = l := by omega
                  have q : ∀ ρ : Rn, ∀ b, capR ρ b (cap + 2 * l) = capR ρ b cap - l := fun ρ b => by
                    unfold capR
                    rw [if_neg (by omega), if_neg hc1]
                    omega
                  refine ⟨?_, fun ρ ρ' e => by
                    have := hx ρ ρ' e
                    rw [ren_slice, ren_slice] at this
                    rw [ren_slice, ren_slice, renB_add, renB_add, add_block, q, q]
                    obtain ⟨t1, _, t3⟩ := Value.slice.inj this
                    rw [Option.some.inj t1, t3]⟩
                  simp only [Instr.sliceAt, Instr.slice, underlying, hu, ren_slice, hrun, sizeOf_run hn, Sem.run_bind, run_program, Result.andThen_ok, Sem.run_pure, Option.map_some]
                  rw [if_neg hne, renB_add, add_block, q]
                · cases h
      · cases h
  · rename_i len e hu
    split at h
    · cases h
    · rename_i n hn
      split at h
      · rename_i a
        split at h
        · cases h
        · rename_i l hh m hb
          injection h with h
          subst h
          have hm : (if mx.isSome = true then m else len) = m := by
            split
            · rfl
            · rename_i hmx
              cases mx with
              | none => exact (boundsA_m hb).symm
              | some v => exact absurd rfl hmx
          refine ⟨?_, sc_ptr_slice ?_⟩
          · simp only [Instr.sliceAt, underlying, hu, ren_ptr, ren_slice, Instr.sureAddr, bounds_ok hb len (Nat.le_refl _), sizeOf_run hn, hm, Sem.run_bind, run_program, Result.andThen_ok, Sem.run_pure, capR_even]
            split <;> simp [renB_add]
          · split
            · exact hx
            · exact sc_add _ hx
      · cases h
  · cases h

end Go.Proofs.YtckidlbmoalomaaGreatDoor


namespace Go.Proofs.YtckidlbmoalomaaGreatDoor

def srcA (P : Program) (σ : AW) (size : Nat) (tx : TypeId) (x : Value) : Option (Nat × List Value) := match P.underlying tx with
  | some (.slice _) => match x with
    | .slice none 0 _ => some (0, [])
    | .slice (some a) n _ => match rowOf σ a with
      | none => none
      | some cs => if ((cs.drop a.off).take (n * size)).length = n * size ∧ ((cs.drop a.off).take (n * size)).all oneB = true then some (n, (cs.drop a.off).take (n * size)) else none
    | _ => none
  | some .string => match x with
    | .string s => if size = 1 then some (s.size, byteCells s) else none
    | _ => none
  | _ => none
theorem byteCells_fl (s : ByteArray) : ∀ v ∈ byteCells s, flat1 v = true := fun v hv => by
  obtain ⟨_, _, rfl⟩ := List.mem_map.1 hv
  rfl
theorem src_ok {P : Program} {ρ : Rn} {σ : AW} {w : World} (hR : Rel ρ σ w) {size : Nat} {tx : TypeId} {x : Value} {n : Nat} {news : List Value} (h : srcA P σ size tx x = some (n, news)) :
    Src P size tx (ren ρ x) n (news.map (ren ρ)) w ∧ (∀ v ∈ news, Sc σ.dom v) ∧ news.all oneB = true ∧ news.length = n * size := by
  unfold srcA at h
  split at h
  · rename_i e hu
    split at h
    · rename_i c
      injection h with h
      injection h with h1 h2
      subst h1 h2
      exact ⟨Src.ofNil w hu _, (fun v hv => by cases hv), rfl, by simp⟩
    · rename_i a m c
      split at h
      · cases h
      · rename_i cs hr
        split at h
        · rename_i hl
          injection h with h
          injection h with h1 h2
          subst h1 h2
          obtain ⟨hlive, hs, hcs, _⟩ := row_ok hR hr
          refine ⟨?_, fun v hv => ?_, hl.2, hl.1⟩
          · refine Src.ofSlice w hu (renB ρ a) m _ _ (by rw [List.length_map]; exact hl.1) (fun j u hu => ?_) (fun u hu => ?_)
            · rw [List.getElem?_map, Option.map_eq_some_iff] at hu
              obtain ⟨v, hv, rfl⟩ := hu
              rw [renB_none ρ hs, add_none]
              refine cell_ok hR hr ?_
              rw [List.getElem?_take, List.getElem?_drop] at hv
              split at hv
              · exact hv
              · cases hv
            · obtain ⟨v, hv, rfl⟩ := List.mem_map.1 hu
              exact one_ren ρ v (List.all_eq_true.1 hl.2 v hv)
          · have := hR.sc _ hlive
            rw [hcs] at this
            exact this v (List.mem_of_mem_drop (List.mem_of_mem_take hv))
        · cases h
    · cases h
  · rename_i hu
    split at h
    · rename_i s
      split at h
      · rename_i h1
        injection h with h
        injection h with h2 h3
        subst h1 h2 h3
        have hm : (byteCells s).map (ren ρ) = byteCells s := map_fl (List.all_eq_true.2 (byteCells_fl s)) ρ
        rw [hm]
        refine ⟨Src.ofString w hu s, fun v hv => (flat1_fl (byteCells_fl s v hv)).sc _, List.all_eq_true.2 (fun v hv => ?_), by rw [byteCells_length, Nat.mul_one]⟩
        obtain ⟨_, _, rfl⟩ := List.mem_map.1 hv
        rfl
      · cases h
    · cases h
  · cases h

theorem growBy_le (need : Nat) : ∀ (r c : Nat), c ≤ 2 * need + 768 → Builtin.growBy need r c ≤ 2 * need + 768
  | 0, c, h => h
  | r + 1, c, h => by
    unfold Builtin.growBy
    split
    · exact h
    · exact growBy_le need r _ (by omega)
theorem nextcap_le {need cap : Nat} (h : cap < need) : Builtin.nextslicecap need cap ≤ 2 * need + 768 := by
  unfold Builtin.nextslicecap
  split
  · omega
  · split
    · omega
    · exact growBy_le need 4 cap (by omega)

def growA (σ : AW) (e : TypeId) (i : TypeInfo) (need : Nat) (cs : List Value) : Option (Value × AW) := match i.zero with
  | none => none
  | some z => if (cellsL z).length = i.size ∧ 0 < need ∧ (2 * need + 768) * i.bytes ≤ 281474976710656 ∧ need ≤ 1000000000 then
      some (.slice (some ⟨σ.next, 0, none⟩) need 1, σ.push ⟨2, e, i.size, cs⟩) else none
theorem cellsL_cells (v : Value) : v.cells.toList = cellsL v := by cases v <;> rfl
theorem zeroCells_length (z : Array Value) (n : Nat) : (Builtin.zeroCells z n).size = n * z.size := by simp [Builtin.zeroCells]
theorem grow_ok {P : Program} {ρ : Rn} {σ : AW} {w : World} (hR : Rel ρ σ w) {t tx ty e : TypeId} {i : TypeInfo} (ht : P.underlying t = some (.slice e)) (hi : P.info? e = some i)
    {base : Option Addr} {sLen sCap : Nat} {olds : List Value} (hold : (Builtin.firstCells i.size sLen (.slice base sLen sCap)).run P w.drew = .ok (olds.map (ren ρ)).toArray w.drew) (hol : olds.length = sLen * i.size) (hos : ∀ v ∈ olds, Sc σ.dom v)
    {x : Value} {n : Nat} {news : List Value} (hs : srcA P σ i.size tx x = some (n, news)) (hg : sCap < sLen + n) {r : Value} {σ' : AW} (h : growA σ e i (sLen + n) (olds ++ news) = some (r, σ')) :
    ∃ ρ' w', (Builtin.append_ #[t, tx] ty #[.slice base sLen sCap, ren ρ x]).run P w = .ok (ren ρ' r) w' ∧ Step ρ σ w ρ' σ' w' ∧ Sc σ'.dom r := by
  unfold growA at h
  split at h
  · cases h
  · rename_i z hz
    split at h
    · rename_i hc
      obtain ⟨hz1, hc1, hc2, hc3⟩ := hc
      injection h with h
      injection h with h1 h2
      subst h1 h2
      obtain ⟨hsrc, hns, hone, hnl⟩ := src_ok hR hs
      have hrun := run_append_grow_src (P := P) w t tx ty e i z ht hi hz base sLen sCap (olds.map (ren ρ)) hold (ren ρ x) n (news.map (ren ρ)) hsrc hg (by omega) (Nat.le_trans (Nat.mul_le_mul_right _ (nextcap_le hg)) hc2)
      have hge : sLen + n ≤ grownCap w (sLen + n) sCap e := grownCap_ge w (sLen + n) sCap e
      have hzs : z.cells.size = i.size := by rw [← hz1, ← cellsL_cells, Array.length_toList]
      obtain ⟨ρ', hn, hst⟩ := step_new (σ := σ) (w := w.drew) (cap := grownCap w (sLen + n) sCap e) (b := ⟨2, e, i.size, olds ++ news⟩)
        (o := .cells ((olds.map (ren ρ) ++ news.map (ren ρ)).toArray ++ Builtin.zeroCells z.cells (grownCap w (sLen + n) sCap e - (sLen + n))) e) (hR.drawn rfl) (by simp)
        (fun v hv => by
          rcases List.mem_append.1 hv with hv | hv
          · exact hos v hv
          · exact hns v hv)
        (fun ρ' ea w' hw => by
          refine ⟨(Builtin.zeroCells z.cells (grownCap w (sLen + n) sCap e - (sLen + n))).toList, ?_, ?_⟩
          · have em : (olds ++ news).map (ren ρ') = olds.map (ren ρ) ++ news.map (ren ρ) := by
              rw [List.map_append, map_sc hos (fun k hk => (ea k hk.1).symm), map_sc hns (fun k hk => (ea k hk.1).symm)]
            simp only [em]
            refine hw.trans ?_
            congr 2
            apply Array.ext'
            simp
          · simp only [List.length_append, hol, hnl, Array.length_toList, zeroCells_length, hzs]
            rw [← Nat.add_mul, ← Nat.add_mul]
            congr 1
            omega)
      refine ⟨ρ', _, ?_, (Step.drew hR).trans hst, sc_slice (push_dom (by simp))⟩
      rw [hrun, ren_slice]
      simp only [renB, hn, capR, World.drew]
      rfl
    · cases h

def appendA (P : Program) (σ : AW) (t tx : TypeId) (s x : Value) : Option (Value × AW) := match P.underlying t with
  | some (.slice e) => match P.info? e with
    | none => none
    | some i => match srcA P σ i.size tx x with
      | none => none
      | some (n, news) => match s with
        | .slice none 0 0 => if n = 0 then some (.slice none 0 0, σ) else growA σ e i (0 + n) ([] ++ news)
        | .slice (some a) len cap => match rowOf σ a with
          | none => none
          | some cs =>
            if cap % 2 = 0 then
              if len + n ≤ cap / 2 then
                if a.off + len * i.size + news.length ≤ cs.length then
                  match σ.get a.block with
                  | ⟨k, el, z, _⟩ => some (.slice (some a) (len + n) cap, σ.set a.block ⟨k, el, z, cs.take (a.off + len * i.size) ++ news ++ cs.drop (a.off + len * i.size + news.length)⟩)
                else none
              else if ((cs.drop a.off).take (len * i.size)).length = len * i.size then growA σ e i (len + n) ((cs.drop a.off).take (len * i.size) ++ news) else none
            else if cap = 1 ∧ a.off = 0 ∧ len * i.size = cs.length ∧ 0 < i.size then
              match σ.get a.block with
              | ⟨2, el, z, _⟩ =>
                if el = e ∧ z = i.size then
                  if n = 0 then some (.slice (some a) len 1, σ)
                  else growA (σ.set a.block noBlk) e i (len + n) (cs ++ news)
                else none
              | _ => none
            else none
        | _ => none
  | _ => none
theorem first_ok {P : Program} {ρ : Rn} {σ : AW} {w : World} (hR : Rel ρ σ w) {a : Addr} {cs : List Value} (hr : rowOf σ a = some cs) {m len cap : Nat} (hl : ((cs.drop a.off).take (len * m)).length = len * m) :
    (Builtin.firstCells m len (.slice (some (renB ρ a)) len cap)).run P w.drew = .ok (((cs.drop a.off).take (len * m)).map (ren ρ)).toArray w.drew := by
  obtain ⟨_, hs, _⟩ := row_ok hR hr
  refine run_firstCells_some w.drew m len (renB ρ a) len cap _ (by rw [List.length_map]; exact hl) (fun j u hu => ?_)
  rw [List.getElem?_map, Option.map_eq_some_iff] at hu
  obtain ⟨v, hv, rfl⟩ := hu
  rw [renB_none ρ hs, add_none]
  refine cell_ok (hR.drawn rfl) hr ?_
  rw [List.getElem?_take, List.getElem?_drop] at hv
  split at hv
  · exact hv
  · cases hv
theorem append_ok {P : Program} {ρ : Rn} {σ : AW} {w : World} (hR : Rel ρ σ w) {t tx ty : TypeId} {s x r : Value} {σ' : AW} (hsc : Sc σ.dom s) (h : appendA P σ t tx s x = some (r, σ')) :
    ∃ ρ' w', (Builtin.append_ #[t, tx] ty #[ren ρ s, ren ρ x]).run P w = .ok (ren ρ' r) w' ∧ Step ρ σ w ρ' σ' w' ∧ Sc σ'.dom r := by
  unfold appendA at h
  split at h
  · rename_i e hu
    split at h
    · cases h
    · rename_i i hi
      split at h
      · cases h
      · rename_i n news hsrc
        obtain ⟨hS, hns, hone, hnl⟩ := src_ok hR hsrc
        split at h
        · split at h
          · rename_i hn0
            injection h with h
            injection h with h1 h2
            subst h1 h2 hn0
            refine ⟨ρ, w, ?_, Step.refl hR, hsc⟩
            rcases hS.kind with ⟨e', hk⟩ | hk <;> simp [Builtin.append_, run_underlying hu, run_underlying hk, sizeOf, typeInfo, hi, hS.len, hS.cells, ren_snil]
          · rename_i hn0
            exact grow_ok hR hu hi (base := none) (sLen := 0) (sCap := 0) (olds := []) (run_firstCells_none w.drew i.size 0 0 0) (by simp) (fun v hv => by cases hv) hsrc (by omega) h
        · rename_i a len cap
          split at h
          · cases h
          · rename_i cs hr
            split at h
            · rename_i hc
              have hcap : capR ρ a.block cap = cap / 2 := by unfold capR; rw [if_pos hc]
              split at h
              · rename_i hroom
                split at h
                · rename_i hfit
                  split at h
                  rename_i k el z _ hg
                  injection h with h
                  injection h with h1 h2
                  obtain ⟨hlive, hsp, _⟩ := row_ok hR hr
                  have hr2 : rowOf σ (a.add (len * i.size)) = some cs := by
                    unfold rowOf at hr ⊢
                    rw [add_block]
                    have : (a.add (len * i.size)).spot = none := by unfold Addr.add; split <;> simp [hsp]
                    rw [hsp] at hr
                    rw [this]
                    exact hr
                  have hoff : (a.add (len * i.size)).off = a.off + len * i.size := by unfold Addr.add; split <;> simp_all
                  obtain ⟨w', hw, hst⟩ := put_ok hR hr2 (by rw [hoff]; exact hfit) hone hns P
                  rw [hoff, add_block, hg, h2] at hst
                  subst h1
                  refine ⟨ρ, w', ?_, hst, fun ρ ρ' e => ?_⟩
                  · rw [renB_add] at hw
                    rw [ren_slice, hcap]
                    rcases hS.kind with ⟨e', hk⟩ | hk <;> simp [Builtin.append_, run_underlying hu, run_underlying hk, sizeOf, typeInfo, hi, hS.len, hS.cells, hroom, hw, ren_slice, hcap]
                  · have := hst.sc hsc ρ ρ' e
                    rw [ren_slice, ren_slice] at this ⊢
                    obtain ⟨t1, _, t3⟩ := Value.slice.inj this
                    rw [t1, t3]
                · cases h
              · rename_i hroom
                split at h
                · rename_i hl
                  obtain ⟨hlive, hsp, hcs, _⟩ := row_ok hR hr
                  have := hR.sc _ hlive
                  rw [hcs] at this
                  rw [ren_slice, hcap]
                  exact grow_ok hR hu hi (first_ok hR hr hl) hl (fun v hv => this v (List.mem_of_mem_drop (List.mem_of_mem_take hv))) hsrc (by omega) h
                · cases h
            · rename_i hc
              split at h
              · rename_i ho
                obtain ⟨hc1, ho0, hlen, hpos⟩ := ho
                split at h
                · rename_i el z c0 hg
                  split at h
                  · rename_i hez
                    obtain ⟨rfl, rfl⟩ := hez
                    obtain ⟨hlive, hsp, hcs, rest, hh, hk⟩ := row_ok hR hr
                    have hsa : ∀ v ∈ cs, Sc σ.dom v := by rw [← hcs]; exact hR.sc _ hlive
                    have hk2 : cs.length + rest.length = (ρ a.block).2 * i.size := by
                      rcases hk with ⟨hk, _⟩ | ⟨_, hk⟩
                      · rw [hg] at hk; simp at hk
                      · rw [hg] at hk; exact hk
                    have hcap : capR ρ a.block cap = (ρ a.block).2 := by unfold capR; rw [if_neg hc, hc1]; omega
                    have hcl : len ≤ (ρ a.block).2 := Nat.le_of_mul_le_mul_right (by omega : len * i.size ≤ (ρ a.block).2 * i.size) hpos
                    have hre : renB ρ a = ⟨(ρ a.block).1, 0, none⟩ := by rw [renB_none ρ hsp, ho0]
                    split at h
                    · rename_i hn0
                      injection h with h
                      injection h with h1 h2
                      subst h1 h2 hn0
                      have hnil : news = [] := by cases news with | nil => rfl | cons y l => simp at hnl
                      subst hnil
                      subst hc1
                      refine ⟨ρ, w, ?_, Step.refl hR, hsc⟩
                      rw [ren_slice, hcap]
                      rcases hS.kind with ⟨e', hk⟩ | hk <;> simp [Builtin.append_, run_underlying hu, run_underlying hk, sizeOf, typeInfo, hi, hS.len, hS.cells, hcl, storeCells]
                    · rename_i hn0
                      by_cases hroom : len + n ≤ (ρ a.block).2
                      · -- in place
                        have hgr := h
                        unfold growA at hgr
                        split at hgr
                        · cases hgr
                        · rename_i z hz
                          split at hgr
                          · rename_i hq
                            injection hgr with hgr
                            injection hgr with h1 h2
                            have hns2 : (len + n) * i.size ≤ (ρ a.block).2 * i.size := Nat.mul_le_mul_right _ hroom
                            rw [Nat.add_mul] at hns2
                            have hst0 := run_storeCells_at P (ρ a.block).1 (0 + len * i.size) _ (news.map (ren ρ)) 0 _ w hh (by simp; omega) (fun v hv => by
                              obtain ⟨u, hu, rfl⟩ := List.mem_map.1 hv
                              exact one_ren ρ u (List.all_eq_true.1 hone u hu))
                            have ecells : (cs.map (ren ρ) ++ rest).toArray.toList.take (0 + len * i.size + 0) ++ news.map (ren ρ) ++ (cs.map (ren ρ) ++ rest).toArray.toList.drop (0 + len * i.size + 0 + (news.map (ren ρ)).length) = (cs ++ news).map (ren ρ) ++ rest.drop news.length := by
                              simp only [Nat.add_zero, Nat.zero_add, List.length_map, List.map_append]
                              rw [List.take_append_of_le_length (by simp; omega), List.take_of_length_le (by simp; omega), List.drop_append, List.drop_of_length_le (by simp; omega), List.nil_append]
                              congr 2
                              simp
                              omega
                            rw [ecells] at hst0
                            have hw := setRow_heap w (ρ a.block).1 _ (((cs ++ news).map (ren ρ) ++ rest.drop news.length).toArray) _ _ hh
                            have hsm : ∀ v ∈ cs ++ news, Sc σ.dom v := fun v hv => by
                              rcases List.mem_append.1 hv with hv | hv
                              · exact hsa v hv
                              · exact hns v hv
                            obtain ⟨ρ', hn', hst⟩ := step_move (b := ⟨2, el, i.size, cs ++ news⟩) hR hlive hsm (fun i hi => setRow_other _ _ _ _ hi) (setRow_size _ _ _) (fun ρ' ea => by
                              refine ⟨rest.drop news.length, ?_, ?_⟩
                              · simp only
                                rw [hw, map_sc hsm (fun k hk => (ea k hk.1).symm), hg]
                              · simp only [List.length_append, List.length_drop]
                                omega) rfl rfl rfl
                            rw [← h2, ← h1]
                            refine ⟨ρ', _, ?_, hst, sc_slice (push_dom (by simp))⟩
                            have hnx : (σ.set a.block noBlk).next = σ.next := rfl
                            rw [ren_slice, hcap, hre, ren_slice]
                            rw [hnx]
                            simp only [renB, hn', capR]
                            simp only [Nat.zero_add, List.map_append, List.append_assoc] at hst0
                            rcases hS.kind with ⟨e', hk⟩ | hk <;> (simp [Builtin.append_, run_underlying hu, run_underlying hk, sizeOf, typeInfo, hi, hS.len, hS.cells, hroom, Addr.add_lit]; rw [hst0]; rfl)
                          · cases hgr
                      · -- grown
                        have hkill := step_kill hR hlive
                        have hfull : (cs.drop a.off).take (len * i.size) = cs := by rw [ho0, List.drop_zero, List.take_of_length_le (by omega)]
                        have hf := first_ok (P := P) (ρ := ρ) (w := w) (m := i.size) (len := len) (cap := (ρ a.block).2) hR hr (by rw [hfull]; omega)
                        rw [hfull] at hf
                        unfold growA at h
                        split at h
                        · cases h
                        · rename_i z hz
                          split at h
                          · rename_i hq
                            obtain ⟨hz1, hc1', hc2, hc3⟩ := hq
                            injection h with h
                            injection h with h1 h2
                            have hg' : (ρ a.block).2 < len + n := by omega
                            have hrun := run_append_grow_src (P := P) w t tx ty el i z hu hi hz (some (renB ρ a)) len (ρ a.block).2 (cs.map (ren ρ)) hf (ren ρ x) n (news.map (ren ρ)) hS hg' (by omega) (Nat.le_trans (Nat.mul_le_mul_right _ (nextcap_le hg')) hc2)
                            have hge : len + n ≤ grownCap w (len + n) (ρ a.block).2 el := grownCap_ge w (len + n) (ρ a.block).2 el
                            have hzs : z.cells.size = i.size := by rw [← hz1, ← cellsL_cells, Array.length_toList]
                            have hsm : ∀ v ∈ cs ++ news, Sc σ.dom v := fun v hv => by
                              rcases List.mem_append.1 hv with hv | hv
                              · exact hsa v hv
                              · exact hns v hv
                            obtain ⟨ρ', hn', hst⟩ := step_new (σ := σ.set a.block noBlk) (w := w.drew) (ρ := ρ) (cap := grownCap w (len + n) (ρ a.block).2 el) (b := ⟨2, el, i.size, cs ++ news⟩)
                              (o := .cells ((cs.map (ren ρ) ++ news.map (ren ρ)).toArray ++ Builtin.zeroCells z.cells (grownCap w (len + n) (ρ a.block).2 el - (len + n))) el) (hkill.rel.drawn rfl) (by simp)
                              (fun v hv => hkill.sc (hsm v hv))
                              (fun ρ' ea w' hw => by
                                refine ⟨(Builtin.zeroCells z.cells (grownCap w (len + n) (ρ a.block).2 el - (len + n))).toList, ?_, ?_⟩
                                · have em : (cs ++ news).map (ren ρ') = cs.map (ren ρ) ++ news.map (ren ρ) := by
                                    rw [map_sc hsm (fun k hk => ea k hk.1), List.map_append]
                                  simp only [em]
                                  refine hw.trans ?_
                                  congr 2
                                  apply Array.ext'
                                  simp
                                · simp only [List.length_append, ← hlen, hnl, Array.length_toList, zeroCells_length, hzs]
                                  rw [← Nat.add_mul, ← Nat.add_mul]
                                  congr 1
                                  omega)
                            rw [← h2, ← h1]
                            refine ⟨ρ', _, ?_, (Step.drew hR).trans ((step_kill (hR.drawn (w' := w.drew) rfl) hlive).trans hst), sc_slice (push_dom (by simp))⟩
                            rw [ren_slice, hcap, hrun, ren_slice]
                            simp only [renB, hn', capR, World.drew]
                            rfl
                          · cases h
                  · cases h
                · cases h
              · cases h
        · cases h
  · cases h

end Go.Proofs.YtckidlbmoalomaaGreatDoor


namespace Go.Proofs.YtckidlbmoalomaaGreatDoor

def putL (cs : List Value) (off : Nat) (vs : List Value) : List Value := match vs with
  | [] => cs
  | v :: l => putL (cs.set off v) (off + 1) l
def fillL (place : Nat → Option (Nat × Nat)) (cs : List Value) : List (Nat × Value) → Option (List Value)
  | [] => some cs
  | (i, v) :: rest => match place i with
    | none => none
    | some (off, size) => if (cellsL v).length ≠ size ∨ off + (cellsL v).length > cs.length then none else fillL place (putL cs off (cellsL v)) rest
theorem putL_length : ∀ (vs cs : List Value) (off : Nat), (putL cs off vs).length = cs.length
  | [], _, _ => rfl
  | v :: l, cs, off => by rw [putL, putL_length l]; simp
theorem putL_foldl (cs : List Value) (vs : List Value) : ∀ (off j : Nat), ((vs.zipIdx j).foldl (fun (cs : Array Value) (p : Value × Nat) => cs.setIfInBounds (off + p.2) p.1) cs.toArray) = (putL cs (off + j) vs).toArray := by
  induction vs generalizing cs with
  | nil => intro off j; rfl
  | cons v l ih =>
    intro off j
    rw [List.zipIdx_cons, List.foldl_cons, putL]
    have e : (cs.toArray.setIfInBounds (off + j) v) = (cs.set (off + j) v).toArray := by simp
    simp only [e]
    rw [ih, Nat.add_assoc]
theorem fill_eq (place : Nat → Option (Nat × Nat)) : ∀ (ps : List (Nat × Value)) (cs : List Value), Instr.fill place cs.toArray ps = (fillL place cs ps).map List.toArray
  | [], cs => rfl
  | (i, v) :: rest, cs => by
    unfold Instr.fill fillL
    cases place i with
    | none => rfl
    | some p =>
      obtain ⟨off, size⟩ := p
      have hs : v.cells.size = (cellsL v).length := by rw [← cellsL_cells, Array.length_toList]
      simp only [hs, List.size_toArray]
      by_cases hc : (cellsL v).length ≠ size ∨ off + (cellsL v).length > cs.length
      · rw [if_pos (by simpa using hc), if_pos hc]; rfl
      · rw [if_neg (by simpa using hc), if_neg hc, ← fill_eq place rest]
        congr 1
        have hv : v.cells = (cellsL v).toArray := by rw [← cellsL_cells]
        rw [hv]
        have := putL_foldl cs (cellsL v) off 0
        simp only [Nat.add_zero] at this
        rw [← this]
        simp
theorem putL_map (f : Value → Value) : ∀ (vs cs : List Value) (off : Nat), (putL cs off vs).map f = putL (cs.map f) off (vs.map f)
  | [], _, _ => rfl
  | v :: l, cs, off => by rw [putL, putL_map f l, List.map_cons, putL, List.map_set]
theorem cellsL_ren (ρ : Rn) (v : Value) : cellsL (ren ρ v) = (cellsL v).map (ren ρ) := by
  rw [← cellsL_cells, cells_ren]
theorem fillL_map (ρ : Rn) (place : Nat → Option (Nat × Nat)) : ∀ (ps : List (Nat × Value)) (cs : List Value), fillL place (cs.map (ren ρ)) (ps.map fun p => (p.1, ren ρ p.2)) = (fillL place cs ps).map (·.map (ren ρ))
  | [], cs => rfl
  | (i, v) :: rest, cs => by
    simp only [List.map_cons, fillL]
    cases place i with
    | none => rfl
    | some p =>
      obtain ⟨off, size⟩ := p
      simp only [cellsL_ren, List.length_map]
      split
      · rfl
      · rw [← putL_map, fillL_map ρ place rest]
theorem mem_putL {D : Value → Prop} : ∀ (vs cs : List Value) (off : Nat), (∀ v ∈ cs, D v) → (∀ v ∈ vs, D v) → ∀ v ∈ putL cs off vs, D v
  | [], _, _, h, _ => h
  | u :: l, cs, off, h, k => by
    rw [putL]
    refine mem_putL l _ _ (fun v hv => ?_) (fun v hv => k v (List.mem_cons_of_mem _ hv))
    rcases List.mem_or_eq_of_mem_set hv with hv | rfl
    · exact h v hv
    · exact k v (List.mem_cons_self ..)
theorem mem_fillL {D : Nat → Prop} {place : Nat → Option (Nat × Nat)} : ∀ {ps : List (Nat × Value)} {cs r : List Value}, (∀ v ∈ cs, Sc D v) → (∀ p ∈ ps, Sc D p.2) → fillL place cs ps = some r → ∀ v ∈ r, Sc D v
  | [], cs, r, h, _, e => by injection e with e; subst e; exact h
  | (i, v) :: rest, cs, r, h, k, e => by
    unfold fillL at e
    split at e
    · cases e
    · split at e
      · cases e
      · exact mem_fillL (mem_putL _ _ _ h (cellsL_sc (k (i, v) (List.mem_cons_self ..)))) (fun p hp => k p (List.mem_cons_of_mem _ hp)) e

def evParts (A : Fr) : List (Nat × Operand) → Option (List (Nat × Value))
  | [] => some []
  | (i, x) :: l => match ev A x with
    | none => none
    | some v => match evParts A l with
      | none => none
      | some vs => some ((i, v) :: vs)
def HE (ρ : Rn) (σ : AW) (A : Fr) (a : Act) (xs : List Operand) : Prop := ∀ x ∈ xs, ∀ v, ev A x = some v → a.eval x = ren ρ v ∧ Sc σ.dom v
theorem parts_ok {ρ : Rn} {σ : AW} {A : Fr} {a : Act} : ∀ {l : List (Nat × Operand)} {vs : List (Nat × Value)}, HE ρ σ A a (l.map (·.2)) → evParts A l = some vs →
    (l.map fun (i, x) => (i, a.eval x)) = vs.map (fun p => (p.1, ren ρ p.2)) ∧ ∀ p ∈ vs, Sc σ.dom p.2
  | [], vs, _, e => by injection e with e; subst e; exact ⟨rfl, fun v hv => by cases hv⟩
  | (i, x) :: l, vs, h, e => by
    simp only [evParts] at e
    split at e
    · cases e
    · rename_i v hv
      split at e
      · cases e
      · rename_i us hus
        injection e with e
        subst e
        obtain ⟨h1, h2⟩ := h x (List.mem_cons_self ..) v hv
        obtain ⟨h3, h4⟩ := parts_ok (fun y hy => h y (List.mem_cons_of_mem _ hy)) hus
        refine ⟨by rw [List.map_cons, List.map_cons, h3]; simp [h1], fun u hu => ?_⟩
        cases hu with
        | head => exact h2
        | tail _ hu => exact h4 u hu

def placesA (P : Program) : List Field → Option (List (Nat × Nat))
  | [] => some []
  | f :: l => match szOf P f.type with
    | none => none
    | some n => match placesA P l with
      | none => none
      | some r => some ((f.offset, n) :: r)
theorem places_run {P : Program} (w : World) : ∀ {l : List Field} {r : List (Nat × Nat)}, placesA P l = some r → (l.mapM (fun f => (do pure (f.offset, ← sizeOf f.type) : Sem (Nat × Nat)))).run P w = .ok r w
  | [], r, e => by injection e with e; subst e; rfl
  | f :: l, r, e => by
    unfold placesA at e
    split at e
    · cases e
    · rename_i n hn
      split at e
      · cases e
      · rename_i r' hr
        injection e with e
        subst e
        rw [List.mapM_cons]
        simp only [Sem.run_bind, sizeOf_run hn, Result.andThen_ok, Sem.run_pure, places_run w hr]
def buildA (P : Program) (t : TypeId) (ps : List (Nat × Value)) : Option Value := match zeroOf P t with
  | none => none
  | some z => match P.underlying t with
    | some (.struct fs) => match placesA P fs.toList with
      | none => none
      | some pl => match fillL (fun i => pl[i]?) (cellsL z) ps with
        | none => none
        | some cs => some (.agg cs.toArray)
    | some (.array _ e) => match szOf P e with
      | none => none
      | some n => match fillL (fun i => some (i * n, n)) (cellsL z) ps with
        | none => none
        | some cs => some (.agg cs.toArray)
    | _ => none
theorem zero_sc {z : Value} (h : Fl z) (D : Nat → Prop) : ∀ v ∈ cellsL z, Sc D v := cellsL_sc (h.sc D)
theorem zero_map {z : Value} (h : Fl z) (ρ : Rn) : (cellsL z).map (ren ρ) = cellsL z := by rw [← cellsL_ren, h ρ]
theorem build_ok {P : Program} {ρ : Rn} {D : Nat → Prop} {t : TypeId} {ps : List (Nat × Value)} {r : Value} (hp : ∀ p ∈ ps, Sc D p.2) (h : buildA P t ps = some r) (w : World) :
    (Instr.build t (ps.map fun p => (p.1, ren ρ p.2)).toArray).run P w = .ok (ren ρ r) w ∧ Sc D r := by
  unfold buildA at h
  split at h
  · cases h
  · rename_i z hz
    obtain ⟨hz1, hz2⟩ := zeroOf_run hz w
    have hzc : z.cells = (cellsL z).toArray := by rw [← cellsL_cells]
    split at h
    · rename_i fs hu
      split at h
      · cases h
      · rename_i pl hpl
        split at h
        · cases h
        · rename_i cs hcs
          injection h with h
          subst h
          refine ⟨?_, sc_agg (fun v hv => mem_fillL (zero_sc hz2 D) hp hcs v (by simpa using hv))⟩
          have hm := fillL_map ρ (fun i => pl[i]?) ps (cellsL z)
          rw [hcs, zero_map hz2] at hm
          unfold Instr.build
          have hrun : (fs.mapM (fun f => (do pure (f.offset, ← sizeOf f.type) : Sem (Nat × Nat)))).run P w = .ok pl.toArray w := by
            rw [Array.mapM_eq_mapM_toList, Sem.run_map, places_run w hpl]
            rfl
          simp only [Sem.run_bind, hz1, Result.andThen_ok, underlying, run_program, hu, Sem.run_pure, hrun, hzc, List.getElem?_toArray, fill_eq, hm]
          simp [ren_agg]
    · rename_i len e hu
      split at h
      · cases h
      · rename_i n hn
        split at h
        · cases h
        · rename_i cs hcs
          injection h with h
          subst h
          refine ⟨?_, sc_agg (fun v hv => mem_fillL (zero_sc hz2 D) hp hcs v (by simpa using hv))⟩
          have hm := fillL_map ρ (fun i => some (i * n, n)) ps (cellsL z)
          rw [hcs, zero_map hz2] at hm
          unfold Instr.build
          simp only [Sem.run_bind, hz1, Result.andThen_ok, underlying, run_program, hu, Sem.run_pure, sizeOf_run hn, hzc, fill_eq, hm]
          simp [ren_agg]
    · cases h

end Go.Proofs.YtckidlbmoalomaaGreatDoor
