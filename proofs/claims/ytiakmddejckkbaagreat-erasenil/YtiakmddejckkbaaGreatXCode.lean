/- Runs of closed code, reckoned: code and calls come to what they are reckoned to be. -/
import Derived.Test.YtiakmddejckkbaaGreatXDraw3
namespace Go.Proofs.YtiakmddejckkbaaGreat

section
variable {P : Program} {call : CallA} {Q : Exit → Act → World → Prop}
theorem drawA_wp {id : Nat} (hm : P.follows .mixedOrders = true) {ops : Array Oper} (hC : CallOK P call) {A A' : Fr} {σ σ' : AW} {ρ : Rn} {a : Act} {w : World} (hR : Rel ρ σ w) (hT : TR ρ σ A a) (h : drawA call P ops.toList A σ = some (A', σ'))
    (hQ : ∀ ρ' a' w', Step ρ σ w ρ' σ' w' → TR ρ' σ' A' a' → Q .normal a' w') : (Code.region id ops true).wp P Q a w := by
  unfold drawA at h
  split at h
  · rename_i hok
    rw [Bool.and_eq_true] at hok
    obtain ⟨hok, hff⟩ := hok
    split at h
    · cases h
    · rename_i tr A1 σ1 htr
      split at h
      · rename_i hcalm
        injection h with h
        injection h with h1 h2
        subst h1 h2
        refine wp_region_any hm ?_
        obtain ⟨hlen, hst0, _⟩ := trace_at htr
        have hI : Inv P ops.toList (floatAt ops.toList (ancL [] ops.toList)) tr A A1 σ1 ρ σ w (Array.replicate ops.size false) 0 ρ a { w with drawn := w.drawn + 1 } := by
          have hno : ∀ j, ¬ listed (Array.replicate ops.size false) j := fun j hj => by
            unfold listed at hj
            by_cases hlt : j < ops.size
            · simp [hlt] at hj
            · simp [hlt] at hj
          have hs0 : (stAt tr A1 σ1 0).2 = σ := by rw [hst0]
          exact ⟨⟨by simp, fun i o _ hl => absurd hl (hno i)⟩, List.mem_cons_self .., fun j o _ _ _ => ⟨fun hl => absurd hl (hno j), fun hl => absurd hl (Nat.not_lt_zero _)⟩, fun h => absurd h (Nat.not_lt_zero _), by rw [hs0]; exact Step.drew hR, hT.size, hT.defers,
            fun j o t v u _ _ hl => absurd hl (hno j), fun t v _ hA => ⟨hT.tmps t v hA, by rw [hs0]; exact hT.sc t v hA⟩, fun hl => absurd hl (hno _)⟩
        refine inv_any rfl rfl hC (regOK_c hok) (fun o ho d hd => ?_) htr hcalm hQ ops.size _ 0 ρ a _ ?_ hI
        · unfold floatFit at hff
          rw [ho] at hff
          simp only [hd] at hff
          exact Option.isSome_iff_exists.1 hff
        · unfold left
          refine Nat.le_trans (List.length_filter_le _ _) ?_
          simp
      · cases h
  · cases h

/-- What code is reckoned to come to is what it comes to. -/
def ExOK (P : Program) (rec : ExA) : Prop := ∀ c A σ e A' σ', rec c A σ = some (e, A', σ') → ∀ ρ a w, Rel ρ σ w → TR ρ σ A a → c.wp P (fun e' a' w' => e' = e ∧ ∃ ρ', Step ρ σ w ρ' σ' w' ∧ TR ρ' σ' A' a') a w
theorem loopA_ok {rec : ExA} (h : ExOK P rec) (c : Code) : ∀ (n : Nat) {A A' : Fr} {σ σ' : AW} {e : Exit}, loopA rec c n A σ = some (e, A', σ') → ∀ ρ a w, Rel ρ σ w → TR ρ σ A a →
    Code.rounds P c (fun e' a' w' => e' = e ∧ ∃ ρ', Step ρ σ w ρ' σ' w' ∧ TR ρ' σ' A' a') n a w
  | 0, _, _, _, _, _, hl, _, _, _, _, _ => by cases hl
  | n + 1, A, A', σ, σ', e, hl, ρ, a, w, hR, hT => by
    unfold loopA at hl
    rw [rounds_succ]
    split at hl
    · rename_i A1 σ1 hr
      refine wp_mono (h _ _ _ _ _ _ hr ρ a w hR hT) ?_
      rintro e' a1 w1 ⟨rfl, ρ1, hst, hT1⟩
      have := loopA_ok h c n hl ρ1 a1 w1 hst.rel hT1
      -- the way so far is laid ahead
      have mono : ∀ (n : Nat) (a1 : Act) (w1' : World), Code.rounds P c (fun e' a' w' => e' = e ∧ ∃ ρ', Step ρ1 σ1 w1 ρ' σ' w' ∧ TR ρ' σ' A' a') n a1 w1' → Code.rounds P c (fun e' a' w' => e' = e ∧ ∃ ρ', Step ρ σ w ρ' σ' w' ∧ TR ρ' σ' A' a') n a1 w1' := by
        intro n
        induction n with
        | zero => intro _ _ h; exact h
        | succ n ih =>
          intro a1 w1' hh
          rw [rounds_succ] at hh ⊢
          refine wp_mono hh ?_
          intro e2 a2 w2 hq
          cases e2 with
          | normal => exact ih _ _ hq
          | _ => obtain ⟨h1, ρ2, h2, h3⟩ := hq; exact ⟨h1, ρ2, hst.trans h2, h3⟩
      exact mono n a1 w1 this
    · rename_i r hne
      refine wp_mono (h _ _ _ _ _ _ hl ρ a w hR hT) ?_
      rintro e' a1 w1 ⟨rfl, hq⟩
      cases e' with
      | normal => exact absurd hl (fun hl => hne _ _ hl)
      | _ => exact ⟨rfl, hq⟩
/-- Passes through a scope, by jumps. -/
def passes (P : Program) (c : Code) (Q : Exit → Act → World → Prop) : Nat → Code → Act → World → Prop
  | 0, _, _, _ => False
  | n + 1, cur, a, w => cur.wp P (fun e a w => match e with
    | .goto l => ∃ rest, findLabel c l = some rest ∧ passes P c Q n rest a w
    | e => Q e a w) a w
theorem wp_scope_passes {a : Act} {w : World} {c : Code} (n : Nat) (h : passes P c Q n c a w) : (Code.scope c).wp P Q a w := by
  intro b k cs
  have key : ∀ n cur a w, passes P c Q n cur a w → ∃ e a' w', Q e a' w' ∧ Arrives P (lone (b.at a (.code cur :: .inScope c :: k)) cs w) b k cs e a' w' := by
    intro n
    induction n with
    | zero => intro cur a w h; exact h.elim
    | succ n ih =>
      intro cur a w h
      obtain ⟨e, a₁, w₁, hq, harr⟩ := h b (.inScope c :: k) cs
      cases e with
      | normal => exact ⟨.normal, a₁, w₁, hq, Steps.trans harr (.one step_inScope)⟩
      | exit id => exact ⟨.exit id, a₁, w₁, hq, fun k' hk => harr k' (by simp [exitTo, hk])⟩
      | goto l =>
        obtain ⟨rest, hf, hp⟩ := hq
        obtain ⟨e₂, a₂, w₂, hq₂, harr₂⟩ := ih rest a₁ w₁ hp
        exact ⟨e₂, a₂, w₂, hq₂, .of_steps (harr _ (by simp [gotoIn, hf])) harr₂⟩
      | ret => exact ⟨_, a₁, w₁, hq, harr⟩
      | panic ch => exact ⟨_, a₁, w₁, hq, harr⟩
      | outgrown => exact ⟨_, a₁, w₁, hq, harr⟩
  obtain ⟨e, a', w', hq, harr⟩ := key n c a w h
  exact ⟨e, a', w', hq, .of_steps (.one step_scope) harr⟩
theorem scopeA_ok {rec : ExA} (h : ExOK P rec) (c : Code) : ∀ (n : Nat) {cur : Code} {A A' : Fr} {σ σ' : AW} {e : Exit}, scopeA rec c n cur A σ = some (e, A', σ') → ∀ ρ a w, Rel ρ σ w → TR ρ σ A a →
    passes P c (fun e' a' w' => e' = e ∧ ∃ ρ', Step ρ σ w ρ' σ' w' ∧ TR ρ' σ' A' a') n cur a w
  | 0, _, _, _, _, _, _, hl, _, _, _, _, _ => by cases hl
  | n + 1, cur, A, A', σ, σ', e, hl, ρ, a, w, hR, hT => by
    unfold scopeA at hl
    unfold passes
    split at hl
    · rename_i l A1 σ1 hr
      split at hl
      · rename_i rest hf
        refine wp_mono (h _ _ _ _ _ _ hr ρ a w hR hT) ?_
        rintro e' a1 w1 ⟨rfl, ρ1, hst, hT1⟩
        have := scopeA_ok h c n hl ρ1 a1 w1 hst.rel hT1
        have mono : ∀ (n : Nat) (cur : Code) (a1 : Act) (w1' : World), passes P c (fun e' a' w' => e' = e ∧ ∃ ρ', Step ρ1 σ1 w1 ρ' σ' w' ∧ TR ρ' σ' A' a') n cur a1 w1' → passes P c (fun e' a' w' => e' = e ∧ ∃ ρ', Step ρ σ w ρ' σ' w' ∧ TR ρ' σ' A' a') n cur a1 w1' := by
          intro n
          induction n with
          | zero => intro _ _ _ h; exact h
          | succ n ih =>
            intro cur a1 w1' hh
            unfold passes at hh ⊢
            refine wp_mono hh ?_
            intro e2 a2 w2 hq
            cases e2 with
            | goto l => obtain ⟨r, h1, h2⟩ := hq; exact ⟨r, h1, ih _ _ _ h2⟩
            | _ => obtain ⟨h1, ρ2, h2, h3⟩ := hq; exact ⟨h1, ρ2, hst.trans h2, h3⟩
        exact ⟨rest, hf, mono n rest a1 w1 this⟩
      · cases hl
    · rename_i r hne
      refine wp_mono (h _ _ _ _ _ _ hl ρ a w hR hT) ?_
      rintro e' a1 w1 ⟨rfl, hq⟩
      cases e' with
      | goto l => exact absurd hl (fun hl => hne _ _ _ hl)
      | _ => exact ⟨rfl, hq⟩

/-- One result, as the model reads it. -/
def resS (a : Act) : ResultVar → Sem Value
  | .tmp t => pure (a.tmps.getD t undef)
  | .cell x t => do loadVar t (← asAddr (a.tmps.getD x undef))
theorem resultOne_ok {A : Fr} {σ : AW} {ρ : Rn} {a : Act} {w : World} (hR : Rel ρ σ w) (hT : TR ρ σ A a) {r : ResultVar} {v : Value} (hv : resultOne P A σ r = some v) : (resS a r).run P w = .ok (ren ρ v) w ∧ Sc σ.dom v := by
  cases r with
  | tmp t =>
    have hv : A.get t = some v := hv
    refine ⟨?_, hT.sc t v hv⟩
    simp [resS, hT.tmps t v hv]
  | cell x t =>
    unfold resultOne at hv
    simp only at hv
    split at hv
    · rename_i ad hx
      obtain ⟨q1, q2⟩ := loadVar_ok hR hv
      refine ⟨?_, q2⟩
      have := hT.tmps x _ hx
      rw [ren_ptr] at this
      simp [resS, this, asAddr, q1]
    · cases hv
theorem results_ok {A : Fr} {σ : AW} {ρ : Rn} {a : Act} {w : World} (hR : Rel ρ σ w) (hT : TR ρ σ A a) : ∀ {l : List ResultVar} {vs : List Value}, resultsA P A σ l = some vs →
    (l.mapM (resS a)).run P w = .ok (vs.map (ren ρ)) w ∧ ∀ v ∈ vs, Sc σ.dom v
  | [], vs, h => by injection h with h; subst h; exact ⟨rfl, fun v hv => by cases hv⟩
  | r :: l, vs, h => by
    unfold resultsA at h
    split at h
    · cases h
    · rename_i v hv
      split at h
      · cases h
      · rename_i us hus
        injection h with h
        subst h
        obtain ⟨h1, h2⟩ := results_ok hR hT hus
        obtain ⟨q1, q2⟩ := resultOne_ok hR hT hv
        refine ⟨?_, fun u hu => ?_⟩
        · rw [List.mapM_cons]
          simp only [Sem.run_bind, q1, Result.andThen_ok, h1, Sem.run_pure, List.map_cons]
        · cases hu with
          | head => exact q2
          | tail _ hu => exact h2 u hu
theorem result_ok {fn : Func} {A : Fr} {σ : AW} {ρ : Rn} {a : Act} {w : World} (hR : Rel ρ σ w) (hT : TR ρ σ A a) {vs : List Value} (h : resultsA P A σ fn.results.toList = some vs) :
    (results fn a.tmps).run P w = .ok (ren ρ (resultA vs)) w ∧ Sc σ.dom (resultA vs) := by
  obtain ⟨h1, h2⟩ := results_ok hR hT h
  have hm : (fn.results.mapM (resS a)).run P w = .ok (vs.map (ren ρ)).toArray w := by
    rw [Array.mapM_eq_mapM_toList, Sem.run_map, h1]
    rfl
  have hf : (results fn a.tmps) = (do let vs ← fn.results.mapM (resS a); pure (if h : vs.size = 1 then vs[0] else .tuple vs)) := by
    unfold results
    have : (fun (x : ResultVar) => (match x with | .tmp t => pure (a.tmps.getD t undef) | .cell x t => do loadVar t (← asAddr (a.tmps.getD x undef)) : Sem Value)) = resS a := by
      funext r
      cases r <;> rfl
    rw [← this]
    rfl
  rw [hf]
  simp only [Sem.run_bind, hm, Result.andThen_ok, Sem.run_pure]
  cases vs with
  | nil => exact ⟨by simp [resultA, ren_tuple], sc_tuple (fun v hv => by cases hv)⟩
  | cons v l =>
    cases l with
    | nil => exact ⟨by simp [resultA], h2 v (by simp)⟩
    | cons u m => exact ⟨by simp [resultA, ren_tuple], sc_tuple (fun v hv => h2 v (by simpa using hv))⟩

theorem fill_tr {σ : AW} {ρ : Rn} {n : Nat} : ∀ (xs : List Value) (i : Nat) (A : Fr) (tm : Array Value), (∀ x ∈ xs, Sc σ.dom x) → A.size = n → tm.size = n → (∀ t v, A.get t = some v → tm[t]? = some (ren ρ v) ∧ Sc σ.dom v) →
    (A.fill i xs).size = n ∧ ∀ t v, (A.fill i xs).get t = some v → ((xs.zipIdx i).foldl (fun (tm : Array Value) (p : Value × Nat) => tm.setIfInBounds p.2 (ren ρ p.1)) tm)[t]? = some (ren ρ v) ∧ Sc σ.dom v
  | [], i, A, tm, _, hA, _, h => ⟨hA, h⟩
  | x :: xs, i, A, tm, hs, hA, ht, h => by
    refine fill_tr xs (i + 1) (A.set i x) (tm.setIfInBounds i (ren ρ x)) (fun y hy => hs y (List.mem_cons_of_mem _ hy)) hA (by simpa using ht) (fun t v e => ?_)
    rw [Fr.get_set] at e
    by_cases hti : t = i
    · rw [if_pos hti, Option.map_eq_some_iff] at e
      obtain ⟨u, hu, rfl⟩ := e
      subst hti
      have := (h t u hu).1
      have hlt := (Array.getElem?_eq_some_iff.1 this).1
      exact ⟨by simp [hlt], hs x (List.mem_cons_self ..)⟩
    · rw [if_neg hti] at e
      rw [Array.getElem?_setIfInBounds_ne (Ne.symm hti)]
      exact h t v e
theorem fold_args (f : Value → Value) : ∀ (xs : List Value) (i : Nat) (pre suf : List Value), pre.length = i → xs.length ≤ suf.length →
    (xs.zipIdx i).foldl (fun (tm : Array Value) (p : Value × Nat) => tm.setIfInBounds p.2 (f p.1)) (pre ++ suf).toArray = (pre ++ xs.map f ++ suf.drop xs.length).toArray
  | [], i, pre, suf, _, _ => by simp
  | x :: xs, i, pre, suf, hp, hl => by
    cases suf with
    | nil => simp at hl
    | cons s suf =>
      rw [List.zipIdx_cons, List.foldl_cons]
      have e : (pre ++ s :: suf).toArray.setIfInBounds i (f x) = ((pre ++ [f x]) ++ suf).toArray := by
        simp only [List.setIfInBounds_toArray, List.append_assoc, List.singleton_append]
        congr 1
        rw [List.set_append_right _ _ (by omega), hp, Nat.sub_self]
        rfl
      simp only [e]
      rw [fold_args f xs (i + 1) (pre ++ [f x]) suf (by simp [hp]) (by simp at hl; omega)]
      simp
theorem frame_tr {σ : AW} {ρ : Rn} {n : Nat} {xs : List Value} (hs : ∀ x ∈ xs, Sc σ.dom x) (hl : xs.length ≤ n) : TR ρ σ ((Fr.new n).fill 0 xs) { tmps := (xs.map (ren ρ)).toArray ++ Array.replicate (n - (xs.map (ren ρ)).toArray.size) undef, defers := [] } := by
  have h0 : ∀ t v, (Fr.new n).get t = some v → (Array.replicate n undef)[t]? = some (ren ρ v) ∧ Sc σ.dom v := fun t v e => by
    rw [Fr.get_new] at e
    split at e
    · rename_i ht
      injection e with e
      subst e
      exact ⟨by rw [fl_undef ρ]; simp [ht], fl_undef.sc _⟩
    · cases e
  obtain ⟨h1, h2⟩ := fill_tr (ρ := ρ) xs 0 (Fr.new n) (Array.replicate n undef) (n := n) hs rfl (by simp) h0
  have hf := fold_args (ren ρ) xs 0 [] (List.replicate n undef) rfl (by simpa using hl)
  have e1 : ([] ++ List.replicate n undef).toArray = Array.replicate n undef := by simp
  rw [e1] at hf
  have e2 : (xs.map (ren ρ)).toArray ++ Array.replicate (n - (xs.map (ren ρ)).toArray.size) undef = ([] ++ xs.map (ren ρ) ++ (List.replicate n undef).drop xs.length).toArray := by
    apply Array.ext'
    simp
  rw [hf] at h2
  exact ⟨by rw [h1, e2]; simp; omega, fun t v e => by rw [e2]; exact (h2 t v e).1, fun t v e => (h2 t v e).2, rfl⟩
end

end Go.Proofs.YtiakmddejckkbaaGreat
