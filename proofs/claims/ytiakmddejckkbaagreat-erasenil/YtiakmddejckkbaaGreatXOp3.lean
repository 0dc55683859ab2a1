/- Runs of closed code, reckoned: parts of slices, append, copy, make. -/
import Derived.Test.YtiakmddejckkbaaGreatXOp2
namespace Go.Proofs.YtiakmddejckkbaaGreat

/-- How much room a slice has at the least. -/
def roomA (P : Program) (σ : AW) (e : TypeId) (a : Addr) (cap : Nat) : Option Nat :=
  if cap % 2 = 0 then some (cap / 2) else
  match σ.get a.block with
  | ⟨2, _, z, cs⟩ => match szOf P e with
    | none => none
    | some n => if n = z ∧ 0 < z ∧ a.off = cap / 2 * z then some (cs.length / z - cap / 2) else none
  | _ => none
theorem room_ok {P : Program} {ρ : Rn} {σ : AW} {w : World} (h : Rel ρ σ w) {e : TypeId} {a : Addr} {cap y : Nat} (hr : roomA P σ e a cap = some y) :
    y ≤ capR ρ a.block cap ∧ (cap % 2 = 0 → y = cap / 2) := by
  unfold roomA at hr
  unfold capR
  split at hr
  · rename_i hc
    injection hr with hr
    rw [if_pos hc]
    exact ⟨by omega, fun _ => by omega⟩
  · rename_i hc
    rw [if_neg hc]
    split at hr
    · rename_i el z cs hg
      split at hr
      · cases hr
      · split at hr
        · rename_i n _ hz
          injection hr with hr
          have hl : σ.live a.block := by unfold AW.live; rw [hg]; exact ⟨by simp, by simp⟩
          have := h.blk _ hl
          rw [hg] at this
          obtain ⟨rest, h1, h2⟩ := this
          simp only at h2
          refine ⟨?_, fun x => absurd x hc⟩
          have : cs.length / z ≤ (ρ a.block).2 := by
            rw [Nat.div_le_iff_le_mul_add_pred hz.2.1]
            rw [Nat.mul_comm] at h2
            omega
          omega
        · cases hr
    · cases hr
theorem boundsA_m {len y l h m : Nat} {lo hi : Option Value} (e : boundsA len y lo hi none = some (l, h, m)) : m = y := by
  unfold boundsA at e
  simp only at e
  split at e
  · cases e
  · split at e
    · cases e
    · simp only [Option.some.injEq, Prod.mk.injEq] at e
      exact e.2.2.symm
/-- A part of a slice. -/
def sliceA (P : Program) (σ : AW) (t : TypeId) (x : Value) (lo hi mx : Option Value) : Option Value := match P.underlying t with
  | some (.slice e) => match szOf P e with
    | none => none
    | some n => match x with
      | .slice none len cap => match boundsA len cap lo hi mx with
        | none => none
        | some (l, h, m) => some (.slice none (h - l) (m - l))
      | .slice (some a) len cap => match roomA P σ e a cap with
        | none => none
        | some y => match boundsA len y lo hi mx with
          | none => none
          | some (l, h, m) =>
            if cap % 2 = 0 ∨ mx.isSome = true then some (.slice (some (if m = l then a else a.add (l * n))) (h - l) (2 * (m - l)))
            else if l = 0 then some (.slice (some a) h cap)
            else if l < y then some (.slice (some (a.add (l * n))) (h - l) (cap + 2 * l))
            else none
      | _ => none
  | some (.array len e) => match szOf P e with
    | none => none
    | some n => match x with
      | .pointer (some a) => match boundsA len len lo hi mx with
        | none => none
        | some (l, h, m) => some (.slice (some (if m = l then a else a.add (l * n))) (h - l) (2 * (m - l)))
      | _ => none
  | _ => none
theorem capR_even (ρ : Rn) (k m : Nat) : capR ρ k (2 * m) = m := by unfold capR; rw [if_pos (by omega)]; omega
theorem sc_ptr_slice {D : Nat → Prop} {a : Addr} {l c : Nat} (h : Sc D (.pointer (some a))) : Sc D (.slice (some a) l (2 * c)) := fun ρ ρ' e => by
  have := h ρ ρ' e
  rw [ren_ptr, ren_ptr] at this
  rw [ren_slice, ren_slice, capR_even, capR_even, Option.some.inj (Value.pointer.inj this)]
theorem sliceAt_ok {P : Program} {ρ : Rn} {σ : AW} {w : World} (hR : Rel ρ σ w) {t : TypeId} {x r : Value} {lo hi mx : Option Value} (hx : Sc σ.dom x) (h : sliceA P σ t x lo hi mx = some r) :
    (Instr.sliceAt t (ren ρ x) (lo.map (ren ρ)) (hi.map (ren ρ)) (mx.map (ren ρ))).run P w = .ok (ren ρ r) w ∧ Sc σ.dom r := by
  unfold sliceA at h
  split at h
  · rename_i e hu
    split at h
    · cases h
    · rename_i n hn
      split at h
      · rename_i len cap
        split at h
        · cases h
        · rename_i l hh m hb
          injection h with h
          subst h
          refine ⟨?_, fun _ _ _ => rfl⟩
          have hm : (if mx.isSome = true then m else cap) = m := by
            split
            · rfl
            · rename_i hmx
              cases mx with
              | none => exact (boundsA_m hb).symm
              | some v => exact absurd rfl hmx
          simp [Instr.sliceAt, Instr.slice, underlying, hu, ren_snil, bounds_ok hb cap (Nat.le_refl _), sizeOf_run hn, hm]
      · rename_i a len cap
        split at h
        · cases h
        · rename_i y hy
          split at h
          · cases h
          · rename_i l hh m hb
            obtain ⟨h1, h2⟩ := room_ok hR hy
            have hrun := fun w => bounds_ok (P := P) (ρ := ρ) (b := true) hb _ h1 w
            split at h
            · rename_i hc
              injection h with h
              subst h
              have hm : (if mx.isSome = true then m else capR ρ a.block cap) = m := by
                rcases hc with hc | hc
                · split
                  · rfl
                  · rename_i hmx
                    have h3 := h2 hc
                    cases mx with
                    | none => rw [boundsA_m hb, h3, capR, if_pos hc]
                    | some v => exact absurd rfl hmx
                · rw [if_pos hc]
              refine ⟨?_, sc_ptr_slice ?_⟩
              · simp only [Instr.sliceAt, Instr.slice, underlying, hu, ren_slice, hrun, sizeOf_run hn, hm, Sem.run_bind, run_program, Result.andThen_ok, Sem.run_pure, Option.map_some, capR_even]
                split <;> simp [renB_add]
              · split
                · exact sc_slice_ptr hx
                · exact sc_add _ (sc_slice_ptr hx)
            · rename_i hc
              have hc1 : ¬ cap % 2 = 0 := fun e => hc (.inl e)
              have hc2 : mx.isSome = false := by cases hq : mx.isSome with | false => rfl | true => exact absurd (.inr hq) hc
              have hrun : ∀ w : World, (Instr.sliceBounds true len (capR ρ a.block cap) (lo.map (ren ρ)) (hi.map (ren ρ)) (mx.map (ren ρ))).run P w = .ok (l, hh, capR ρ a.block cap) w := fun w => by
                have := hrun w
                rw [hc2] at this
                exact this
              split at h
              · rename_i hl0
                injection h with h
                subst h
                refine ⟨?_, fun ρ ρ' e => by
                  have := hx ρ ρ' e
                  rw [ren_slice, ren_slice] at this ⊢
                  obtain ⟨t1, _, t3⟩ := Value.slice.inj this
                  rw [t1, t3]⟩
                subst hl0
                simp only [Instr.sliceAt, Instr.slice, underlying, hu, ren_slice, hrun, sizeOf_run hn, Sem.run_bind, run_program, Result.andThen_ok, Sem.run_pure, Option.map_some]
                simp [Addr.add]
              · split at h
                · rename_i hl0 hly
                  injection h with h
                  subst h
                  have hne : ¬ capR ρ a.block cap = l := by omega
                  have q : ∀ ρ : Rn, ∀ b, capR ρ b (cap + 2 * l) = capR ρ b cap - l := fun ρ b => by
                    unfold capR
                    rw [if_neg (by omega), if_neg hc1]
                    omega
                  refine ⟨?_, fun ρ ρ' e => by
                    have := hx ρ ρ' e
                    rw [ren_slice, ren_slice] at this
                    rw [ren_slice, ren_slice, renB_add, renB_add, add_block, q, q]
                    obtain ⟨t1, _, t3⟩ := Value.slice.inj this
                    rw [Option.some.inj t1, t3]⟩
                  simp only [Instr.sliceAt, Instr.slice, underlying, hu, ren_slice, hrun, sizeOf_run hn, Sem.run_bind, run_program, Result.andThen_ok, Sem.run_pure, Option.map_some]
                  rw [if_neg hne, renB_add, add_block, q]
                · cases h
      · cases h
  · rename_i len e hu
    split at h
    · cases h
    · rename_i n hn
      split at h
      · rename_i a
        split at h
        · cases h
        · rename_i l hh m hb
          injection h with h
          subst h
          have hm : (if mx.isSome = true then m else len) = m := by
            split
            · rfl
            · rename_i hmx
              cases mx with
              | none => exact (boundsA_m hb).symm
              | some v => exact absurd rfl hmx
          refine ⟨?_, sc_ptr_slice ?_⟩
          · simp only [Instr.sliceAt, underlying, hu, ren_ptr, ren_slice, Instr.sureAddr, bounds_ok hb len (Nat.le_refl _), sizeOf_run hn, hm, Sem.run_bind, run_program, Result.andThen_ok, Sem.run_pure, capR_even]
            split <;> simp [renB_add]
          · split
            · exact hx
            · exact sc_add _ hx
      · cases h
  · cases h

end Go.Proofs.YtiakmddejckkbaaGreat
