/- Runs of closed code, reckoned: one operation, and operations one behind the other, are what they are reckoned to be. -/
import Derived.Test.YtiakmddejckkbaaGreatXRun
import Derived.Tactics
namespace Go.Proofs.YtiakmddejckkbaaGreat

/-- What is reckoned of calls is so. -/
def CallOK (P : Program) (call : CallA) : Prop := ∀ g xs σ v σ', call g xs σ = some (v, σ') → (∀ args w, (callFunc g args).run P w = .ok (.enter g args) w) ∧
  ∀ ρ w, Rel ρ σ w → (∀ x ∈ xs, Sc σ.dom x) → Calls P g (xs.map (ren ρ)).toArray w fun e w' => ∃ ρ', e = .returned (ren ρ' v) ∧ Step ρ σ w ρ' σ' w' ∧ Sc σ'.dom v
section
variable {P : Program} {call : CallA} {ρ ρ' : Rn} {σ σ' : AW} {w w' : World} {A : Fr} {a : Act} {o : Oper} {v : Value} {K : Act → World → Prop} {Q : Exit → Act → World → Prop}
theorem came_wp (h : Came P o a ρ σ w v σ') (hK : ∀ ρ' w', Step ρ σ w ρ' σ' w' → Sc σ'.dom v → K (a.put o.dst (ren ρ' v)) w') : o.wp P a w K Q := by
  obtain ⟨ρ', w', n, hr, hn, hst, hs⟩ := h
  unfold Oper.wp
  rw [hr]
  rcases hn with rfl | ⟨rfl, rfl⟩
  · exact hK ρ' w' hst hs
  · have := hK ρ' w' hst hs
    rw [fl_undef ρ'] at this
    exact this
theorem stepA_wp (hC : CallOK P call) (hR : Rel ρ σ w) (hE : HE ρ σ A a o.op.operands.toList) (h : stepA call P A σ o = some (v, σ')) (hK : ∀ ρ' w', Step ρ σ w ρ' σ' w' → Sc σ'.dom v → K (a.put o.dst (ren ρ' v)) w') : o.wp P a w K Q := by
  unfold stepA at h
  split at h
  · rename_i c ho
    split at h
    · rename_i f hf
      split at h
      · rename_i g xs hx
        unfold callArgs at hx
        rw [hf] at hx
        simp only at hx
        split at hx
        · rename_i g' fs cs hfv
          split at hx
          · rename_i ys hys
            injection hx with hx
            injection hx with q1 q2
            subst q1 q2
            have hops : o.op.operands.toList = f :: c.args.toList := by rw [ho]; simp [Op.operands, Call.operands, hf]
            rw [hops] at hE
            obtain ⟨e1, e2⟩ := hE f (List.mem_cons_self ..) _ hfv
            obtain ⟨e3, e4⟩ := he_all (a := a) (ρ := ρ) (σ := σ) (fun x hx => hE x (List.mem_cons_of_mem _ hx)) hys
            obtain ⟨e5, e6⟩ := of_sc_func e2
            obtain ⟨hent, hcall⟩ := hC _ _ _ _ _ h
            have hargs : c.args.map a.eval = (ys.map (ren ρ)).toArray := by apply Array.ext'; rw [Array.toList_map, e3]
            have hrun : (execOp a.eval o).run P w = .ok (.enter g' ((fs.toList ++ ys ++ cs.toList).map (ren ρ)).toArray) w := by
              simp only [execOp, ho, resolve, hf, e1, ren_func, Deferred.ofValue, Sem.run_bind, Sem.run_pure, Result.andThen_ok, invoke, hent, hargs]
              congr 2
              apply Array.ext'
              simp
            unfold Oper.wp
            rw [hrun]
            refine Calls.mono (hcall ρ w hR (fun x hx => ?_)) ?_
            · simp only [List.mem_append] at hx
              rcases hx with (hx | hx) | hx
              · exact e5 x hx
              · exact e4 x hx
              · exact e6 x hx
            · rintro e w'' ⟨ρ', rfl, hst, hs⟩
              exact hK ρ' w'' hst hs
          · cases hx
        · cases hx
      · cases h
    · exact came_wp (opA_came hR hE h) hK
  · exact came_wp (opA_came hR hE h) hK

theorem TR.step (h : TR ρ σ A a) (hs : Step ρ σ w ρ' σ' w') : TR ρ' σ' A a :=
  ⟨h.size, fun t v e => by rw [hs.ren (h.sc t v e)]; exact h.tmps t v e, fun t v e => hs.sc (h.sc t v e), h.defers⟩
theorem TR.put (h : TR ρ σ A a) (hv : Sc σ.dom v) (dst : Option Tmp) : TR ρ σ (putA A dst v) (a.put dst (ren ρ v)) := by
  cases dst with
  | none => exact h
  | some d =>
    have hsz : (A.set d v).size = A.size := rfl
    refine ⟨by simp [Act.put, putA, hsz, h.size], fun t u e => ?_, fun t u e => ?_, h.defers⟩
    · simp only [putA, Fr.get_set] at e
      simp only [Act.put]
      by_cases ht : t = d
      · rw [if_pos ht, Option.map_eq_some_iff] at e
        obtain ⟨x, hx, rfl⟩ := e
        subst ht
        have := h.tmps t x hx
        have hlt : t < a.tmps.size := (Array.getElem?_eq_some_iff.1 this).1
        simp [hlt]
      · rw [if_neg ht] at e
        rw [Array.getElem?_setIfInBounds_ne (Ne.symm ht)]
        exact h.tmps t u e
    · simp only [putA, Fr.get_set] at e
      by_cases ht : t = d
      · rw [if_pos ht, Option.map_eq_some_iff] at e
        obtain ⟨x, _, rfl⟩ := e
        exact hv
      · rw [if_neg ht] at e
        exact h.sc t u e
theorem ren_boolI {v : Value} {b : Bool} (h : ren ρ v = .bool b) : v = .bool b := by
  cases v with
  | bool c => exact h
  | agg c => rw [ren_agg] at h; cases h
  | tuple c => rw [ren_tuple] at h; cases h
  | func f c d => rw [ren_func] at h; cases h
  | _ => cases h
/-- Whether an operation is wanted, where the temporary that it hangs on is known. -/
theorem wanted_ok {all : List Oper} {ops : Array Oper} (hops : ops.toList = all) (hg : ∀ g b x d v, o.guard = some (g, b) → all[g]? = some x → x.dst = some d → A.get d = some v → a.tmps[d]? = some (ren ρ v)) {b : Bool} (h : wantedA all A o = some b) :
    Region.wanted o (yielded ops a.tmps) = b := by
  unfold wantedA at h
  unfold Region.wanted
  cases hgd : o.guard with
  | none => rw [hgd] at h; injection h
  | some p =>
    obtain ⟨g, want⟩ := p
    rw [hgd] at h
    simp only at h
    have hall : ops[g]? = all[g]? := by rw [← hops]; simp
    cases hx : all[g]? with
    | none => rw [hx] at h; cases h
    | some x =>
      rw [hx] at h
      simp only at h
      cases hd : x.dst with
      | none => rw [hd] at h; cases h
      | some d =>
        rw [hd] at h
        simp only at h
        cases hv : A.get d with
        | none => rw [hv] at h; cases h
        | some v =>
          have h2 := hg g want x d v hgd hx hd hv
          simp only [yielded, hall, hx, Option.bind_some, hd, h2]
          rw [hv] at h
          cases v with
          | bool c => simp only [Option.some.injEq] at h; subst h; rfl
          | agg c => rw [ren_agg]; injection h
          | tuple c => rw [ren_tuple]; injection h
          | func f c d => rw [ren_func]; injection h
          | _ => injection h
/-- One operation, if it is wanted. -/
theorem guardA_wp {all : List Oper} {ops : Array Oper} (hops : ops.toList = all) (hC : CallOK P call) (hR : Rel ρ σ w) (hE : HE ρ σ A a o.op.operands.toList)
    (hg : ∀ g b x d v, o.guard = some (g, b) → all[g]? = some x → x.dst = some d → A.get d = some v → a.tmps[d]? = some (ren ρ v))
    (h : guardA call P all A σ o = some (v, σ')) (hK : ∀ ρ' w', Step ρ σ w ρ' σ' w' → Sc σ'.dom v → K (a.put o.dst (ren ρ' v)) w') :
    if Region.wanted o (yielded ops a.tmps) then o.wp P a w K Q ∨ (o.asks P a w ∧ LetsOut Q) else K (a.put o.dst undef) w := by
  unfold guardA at h
  split at h
  · rename_i hw
    rw [wanted_ok hops hg hw]
    exact .inl (stepA_wp hC hR hE h hK)
  · rename_i hw
    rw [wanted_ok hops hg hw]
    injection h with h
    injection h with h1 h2
    subst h1 h2
    have := hK ρ w (Step.refl hR) (fl_undef.sc _)
    rw [fl_undef ρ] at this
    exact this
  · cases h
theorem seqA_wp {all : List Oper} {ops : Array Oper} (hops : ops.toList = all) (hC : CallOK P call) : ∀ {l : List Oper} {A A' : Fr} {σ σ' : AW} {ρ : Rn} {a : Act} {w : World}, Rel ρ σ w → TR ρ σ A a → seqA call P all l A σ = some (A', σ') →
    (∀ ρ' a' w', Step ρ σ w ρ' σ' w' → TR ρ' σ' A' a' → Q .normal a' w') → wpList P ops Q l a w
  | [], A, A', σ, σ', ρ, a, w, hR, hT, h, hK => by
    injection h with h
    injection h with h1 h2
    subst h1 h2
    exact hK ρ a w (Step.refl hR) hT
  | o :: l, A, A', σ, σ', ρ, a, w, hR, hT, h, hK => by
    unfold seqA at h
    split at h
    · cases h
    · rename_i v σ1 hg
      unfold wpList
      refine guardA_wp (Q := Q) hops hC hR (hT.he _) (fun g b x d v _ _ _ hv => hT.tmps d v hv) hg (fun ρ1 w1 hst hs => ?_)
      exact seqA_wp hops hC hst.rel ((hT.step hst).put hs o.dst) h (fun ρ2 a2 w2 hst2 hT2 => hK ρ2 a2 w2 (hst.trans hst2) hT2)
end

end Go.Proofs.YtiakmddejckkbaaGreat
