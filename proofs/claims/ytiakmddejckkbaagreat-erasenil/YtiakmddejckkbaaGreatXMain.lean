/- Runs of closed code, reckoned: what is reckoned of a call of closed code is so, in whatever memory, on whatever tape. -/
import Derived.Test.YtiakmddejckkbaaGreatXCode
namespace Go.Proofs.YtiakmddejckkbaaGreat
open Go.RowKit

section
variable {P : Program}
theorem step_below {ρ : Rn} {σ : AW} {w w' : World} (h : Rel ρ σ w) (hb : Below w.heap.size w w') : Step ρ σ w ρ σ w' where
  rel := ⟨fun k hk => (h.blk k hk).keep (hb.block _ (h.blk k hk).lt) (h.sc k hk) (fun _ _ => rfl), h.lt, h.inj, h.sc, h.fit⟩
  agree := fun _ _ => rfl
  mono := Nat.le_refl _
  kept := fun _ _ => Iff.rfl
  came := fun k hk => .inr ⟨k, hk, rfl⟩
  same := fun b hb' _ => hb.block b hb'
  os := hb.os
  tape := hb.tape
  output := hb.output
  size := hb.size
theorem enter_run (hN : ∀ (g : Nat) (fn : Func), P.funcs[g]? = some fn → (fn.name == "runtime.NumGoroutine") = false) {g : Nat} {fn : Func} (hf : P.funcs[g]? = some fn) (hb : fn.body.isSome = true) (args : Array Value) (w : World) : (callFunc g args).run P w = .ok (.enter g args) w := by
  unfold callFunc
  have h1 := hN g fn hf
  have h2 : fn.body.isNone = false := by cases hq : fn.body with | none => rw [hq] at hb; cases hb | some c => rfl
  simp only [Sem.run_bind, run_program, Result.andThen_ok, hf, h1, h2, Bool.false_eq_true, if_false, Sem.run_pure]
theorem callA_ok {X : CallA} (hN : ∀ (g : Nat) (fn : Func), P.funcs[g]? = some fn → (fn.name == "runtime.NumGoroutine") = false) (hX : CallOK P X) {rec : ExA} (h : ExOK P rec) : CallOK P (callA X rec P) := by
  intro g xs σ v σ' hc
  unfold callA at hc
  split at hc
  · rename_i r hr
    injection hc with hc
    subst hc
    exact hX g xs σ v σ' hr
  · split at hc
    · cases hc
    · rename_i fn hf
      split at hc
      · cases hc
      · rename_i c hb
        split at hc
        · rename_i hl
          refine ⟨enter_run hN hf (by rw [hb]; rfl), fun ρ w hR hs => ?_⟩
          refine calls_of_wp hf hb ?_
          have hT := frame_tr (ρ := ρ) hs hl
          split at hc
          · rename_i A σ1 hr
            split at hc
            · rename_i vs hvs
              injection hc with hc
              injection hc with h1 h2
              subst h1 h2
              refine wp_mono (h _ _ _ _ _ _ hr ρ _ w hR hT) ?_
              rintro e a' w' ⟨rfl, ρ', hst, hT'⟩
              obtain ⟨q1, q2⟩ := result_ok hst.rel hT' hvs
              exact ⟨hT'.defers, _, q1, ρ', rfl, hst, q2⟩
            · cases hc
          · rename_i A σ1 hr
            split at hc
            · rename_i vs hvs
              injection hc with hc
              injection hc with h1 h2
              subst h1 h2
              refine wp_mono (h _ _ _ _ _ _ hr ρ _ w hR hT) ?_
              rintro e a' w' ⟨rfl, ρ', hst, hT'⟩
              obtain ⟨q1, q2⟩ := result_ok hst.rel hT' hvs
              exact ⟨hT'.defers, _, q1, ρ', rfl, hst, q2⟩
            · cases hc
          · cases hc
        · cases hc
theorem exB_ok {X : CallA} (hm : P.follows .mixedOrders = true) (hN : ∀ (g : Nat) (fn : Func), P.funcs[g]? = some fn → (fn.name == "runtime.NumGoroutine") = false) (hX : CallOK P X) {rec : ExA} (h : ExOK P rec) : ExOK P (exB X P rec) := by
  intro c A σ e A' σ' hc ρ a w hR hT
  have hC := callA_ok hN hX h
  unfold exB at hc
  split at hc
  · injection hc with hc; injection hc with h1 h2; injection h2 with h2 h3
    subst h1 h2 h3
    exact wp_skip ⟨rfl, ρ, Step.refl hR, hT⟩
  · injection hc with hc; injection hc with h1 h2; injection h2 with h2 h3
    subst h1 h2 h3
    exact wp_label ⟨rfl, ρ, Step.refl hR, hT⟩
  · split at hc
    · rename_i A1 σ1 hs
      injection hc with hc; injection hc with h1 h2; injection h2 with h2 h3
      subst h1 h2 h3
      exact wp_region_list (seqA_wp rfl hC hR hT hs (fun ρ' a' w' hst hT' => ⟨rfl, ρ', hst, hT'⟩))
    · cases hc
  · split at hc
    · rename_i A1 σ1 hs
      injection hc with hc; injection hc with h1 h2; injection h2 with h2 h3
      subst h1 h2 h3
      exact drawA_wp hm hC hR hT hs (fun ρ' a' w' hst hT' => ⟨rfl, ρ', hst, hT'⟩)
    · cases hc
  · refine wp_seq ?_
    split at hc
    · rename_i A1 σ1 hr
      refine wp_mono (h _ _ _ _ _ _ hr ρ a w hR hT) ?_
      rintro e' a1 w1 ⟨rfl, ρ1, hst, hT1⟩
      refine wp_mono (h _ _ _ _ _ _ hc ρ1 a1 w1 hst.rel hT1) ?_
      rintro e' a2 w2 ⟨rfl, ρ2, hst2, hT2⟩
      exact ⟨rfl, ρ2, hst.trans hst2, hT2⟩
    · rename_i hne
      refine wp_mono (h _ _ _ _ _ _ hc ρ a w hR hT) ?_
      rintro e' a1 w1 ⟨rfl, hq⟩
      cases e' with
      | normal => exact absurd hc (fun hc => hne _ _ hc)
      | _ => exact ⟨rfl, hq⟩
  · split at hc
    · rename_i b hb
      have he := (ev_ok hT hb).1
      rw [ren_bool] at he
      exact wp_cond he (h _ _ _ _ _ _ hc ρ a w hR hT)
    · cases hc
  · refine wp_block ?_
    split at hc
    · rename_i i A1 σ1 hr
      refine wp_mono (h _ _ _ _ _ _ hr ρ a w hR hT) ?_
      rintro e' a1 w1 ⟨rfl, hq⟩
      simp only [Exit.inBlock]
      split at hc
      · rename_i hid
        injection hc with hc; injection hc with h1 h2; injection h2 with h2 h3
        subst h1 h2 h3
        rw [if_pos hid]
        exact ⟨rfl, hq⟩
      · rename_i hid
        injection hc with hc; injection hc with h1 h2; injection h2 with h2 h3
        subst h1 h2 h3
        rw [if_neg hid]
        exact ⟨rfl, hq⟩
    · rename_i hne
      refine wp_mono (h _ _ _ _ _ _ hc ρ a w hR hT) ?_
      rintro e' a1 w1 ⟨rfl, hq⟩
      cases e' with
      | exit i => exact absurd hc (fun hc => hne _ _ _ hc)
      | _ => exact ⟨rfl, hq⟩
  · exact wp_loop_rounds _ (loopA_ok h _ _ hc ρ a w hR hT)
  · injection hc with hc; injection hc with h1 h2; injection h2 with h2 h3
    subst h1 h2 h3
    exact wp_exit ⟨rfl, ρ, Step.refl hR, hT⟩
  · exact wp_scope_passes _ (scopeA_ok h _ _ hc ρ a w hR hT)
  · injection hc with hc; injection hc with h1 h2; injection h2 with h2 h3
    subst h1 h2 h3
    exact wp_goto ⟨rfl, ρ, Step.refl hR, hT⟩
  · injection hc with hc; injection hc with h1 h2; injection h2 with h2 h3
    subst h1 h2 h3
    exact wp_ret ⟨rfl, ρ, Step.refl hR, hT⟩
  · cases hc
theorem ex_ok {X : CallA} (hm : P.follows .mixedOrders = true) (hN : ∀ (g : Nat) (fn : Func), P.funcs[g]? = some fn → (fn.name == "runtime.NumGoroutine") = false) (hX : CallOK P X) : ∀ n, ExOK P (ex X P n)
  | 0 => fun _ _ _ _ _ _ hc => by cases hc
  | n + 1 => exB_ok hm hN hX (ex_ok hm hN hX n)
/-- **What is reckoned of a call is so.** -/
theorem run_ok {X : CallA} (hm : P.follows .mixedOrders = true) (hN : ∀ (g : Nat) (fn : Func), P.funcs[g]? = some fn → (fn.name == "runtime.NumGoroutine") = false) (hX : CallOK P X) (n : Nat) : CallOK P (runA X P n) :=
  callA_ok hN hX (ex_ok hm hN hX n)
theorem rel_none (ρ : Rn) (w : World) : Rel ρ AW0 w := by
  have hn : ∀ k, (AW0.get k).kind = 0 := fun k => by
    have e : ∀ {α : Type} (d : α) (k : Nat), getN d [] k = d := fun d k => by cases k <;> rfl
    simp [AW.get, AW0, e, noBlk]
  exact ⟨fun k hk => absurd (hn k) hk.1, fun k hk => absurd (hn k) hk.1, fun k j hk => absurd (hn k) hk.1, fun k hk => absurd (hn k) hk.1, fun k _ => hn k⟩
/-- Is a closed call reckoned to come to a value that names no block? -/
def comesTo (r : Option (Value × AW)) (p : Value → Bool) : Bool := match r with
  | some (v, _) => flatB v && p v
  | none => false
/-- **A closed call comes to what it is reckoned to come to: in whatever memory, and leaves all that was there as it was.** -/
theorem closed_call {X : CallA} (hm : P.follows .mixedOrders = true) (hN : ∀ (g : Nat) (fn : Func), P.funcs[g]? = some fn → (fn.name == "runtime.NumGoroutine") = false) (hX : CallOK P X) {n g : Nat} {xs : List Value} {p : Value → Bool} (hx : xs.all flatB = true) (h : comesTo (runA X P n g xs AW0) p = true) (w : World) :
    Calls P g xs.toArray w fun e w' => ∃ v, e = .returned v ∧ p v = true ∧ Below w.heap.size w w' := by
  unfold comesTo at h
  split at h
  · rename_i v σ' hr
    rw [Bool.and_eq_true] at h
    obtain ⟨_, hc⟩ := run_ok hm hN hX n g xs AW0 v σ' hr
    have hfl : ∀ x ∈ xs, Fl x := fun x hx' => flatB_fl (List.all_eq_true.1 hx x hx')
    have hm : ∀ ρ : Rn, xs.map (ren ρ) = xs := fun ρ => by
      clear hr hc hx
      induction xs with
      | nil => rfl
      | cons y l ih => rw [List.map_cons, hfl y (by simp) ρ, ih (fun z hz => hfl z (List.mem_cons_of_mem _ hz))]
    have := hc (fun k => (k, 0)) w (rel_none _ w) (fun x hx' => (hfl x hx').sc _)
    rw [hm] at this
    refine Calls.mono this ?_
    rintro e w' ⟨ρ', rfl, hst, _⟩
    rw [flatB_fl h.1 ρ']
    refine ⟨v, rfl, h.2, ⟨hst.os, hst.tape, hst.output, hst.size, fun b hb => hst.same b hb (fun k hk => ?_)⟩⟩
    have e : ∀ {α : Type} (d : α) (k : Nat), getN d [] k = d := fun d k => by cases k <;> rfl
    have : (AW0.get k).kind = 0 := by simp [AW.get, AW0, e, noBlk]
    exact absurd this hk.1
  · cases h
end

end Go.Proofs.YtiakmddejckkbaaGreat
